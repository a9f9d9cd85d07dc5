/- OrderMore's walk. -/
import Derived.Test.YtiimhndiifojnaaOrMoreMem
import Derived.Deep.RegionHeld3
import Derived.Deep.CutRange
namespace Go.Proofs.Ytiimhndiifojnaa.Or
open Go.RowKit To

set_option maxRecDepth 100000 in
set_option maxHeartbeats 6400000 in
theorem orderMore_any (w : World) (A : Option Addr) (n cap : Nat) (Ln : Nat → Nat) (Z : Nat → Nat → Int) (fr tt : Nat) (hnc : n ≤ cap) (hcap : cap ≤ maxLen) (hE : Rows3At w A n Ln Z) (hfr : fr ≤ 255) (hto : tt ≤ 255) :
    Calls Try.prog 3 #[.slice A n cap, .int .u8 (fr : Int), .int .u8 (tt : Int)] w fun e w' => e = .returned (.bool true) ∧ Below w.heap.size w w' := by
  unfold maxLen at hcap
  have HE := Lib.hid hE
  have HB0 := Lib.hid (Below.refl w.heap.size w)
  have HFT := Lib.hid (And.intro hfr hto)
  clear hE hfr hto
  by_cases h40 : 40 < n
  · have k0 : (40 : Int) < (n : Int) := by omega
    go_enter Try.func3, Try.ntmps3
    go_wp2
    go_loop [8, 24] (fun t i => ∃ (k : Nat) (x : Int), i = .int .i64 (k : Int) ∧ t = .int .i64 x ∧ k ≤ n) (fun _ i => n - (intOf i).toNat)
    case atStart => exact ⟨0, 0, rfl, rfl, by omega⟩
    case round =>
      obtain ⟨k, s, rfl, rfl, hk⟩ := hrel
      by_cases hkn : k < n
      · rcases HE.out with h0 | ⟨b, off, rfl, hE, _⟩
        · omega
        obtain ⟨q1, q2, x, c, q3, q4, q5⟩ := hE k hkn
        unfold maxLen at q1
        obtain ⟨D, hD⟩ : ∃ D, Ln k = D := ⟨_, rfl⟩
        rw [hD] at q1 q3 q4
        clear q5 hE hD
        go_wp2
        go_round
        case rel => exact ⟨k + 1, _, by first | rfl | go_num, rfl, by omega⟩
        case measure => simp [intOf]; omega
      · obtain rfl : k = n := by omega
        go_wp2_with fail
        refine (fixed_any _).mono ?_
        rintro e w9 ⟨rfl, hb9⟩
        have HBZ := Lib.hid (Below.trans HB0.out (hb9.mono (Below.size HB0.out)))
        clear hb9
        go_wp2
        go_ret
        exact ⟨rfl, HBZ.out⟩
  · have k0 : ¬ (40 : Int) < (n : Int) := by omega
    go_enter Try.func3, Try.ntmps3
    go_wp2
    go_loop [8, 24] (fun t i => ∃ k : Nat, i = .int .i64 (k : Int) ∧ t = .int .i64 (sumK Ln k : Nat) ∧ k ≤ n) (fun _ i => n - (intOf i).toNat)
    case atStart => exact ⟨0, rfl, rfl, by omega⟩
    case round =>
      obtain ⟨k, rfl, rfl, hk⟩ := hrel
      by_cases hkn : k < n
      · rcases HE.out with h0 | ⟨b, off, rfl, hE, hS⟩
        · omega
        obtain ⟨q1, q2, x, c, q3, q4, q5⟩ := hE k hkn
        have hsk := sumK_le (Ln := Ln) (B := 17592186044416) (k := k) (fun i hi => (hS i (by omega)).1)
        have hLk := (hS k hkn).1
        have HSS := Lib.hid (show sumK Ln (k + 1) = sumK Ln k + (1 + Ln k) from rfl)
        have hsk2 : sumK Ln k ≤ 703687441776680 := Nat.le_trans hsk (Nat.le_trans (Nat.mul_le_mul_right _ (show k ≤ 40 by omega)) (by decide))
        obtain ⟨D, hD⟩ : ∃ D, Ln k = D := ⟨_, rfl⟩
        obtain ⟨s, hs⟩ : ∃ s, sumK Ln k = s := ⟨_, rfl⟩
        rw [hD] at q1 q3 q4 hLk HSS
        rw [hs] at hsk2 HSS
        rw [hs]
        clear q5 hE hS hsk hD hs q1
        go_wp2
        go_round
        case rel => exact ⟨k + 1, by go_num, by rw [HSS.out]; go_num, by omega⟩
        case measure => simp [intOf]; omega
      · obtain rfl : k = n := by omega
        by_cases hz : k = 0
        · subst hz
          have j0 : ¬ (240 : Int) < ((sumK Ln 0 : Nat) : Int) := by simp [sumK]
          go_wp2_with fail
          refine (fixed_any _).mono ?_
          rintro e w9 ⟨rfl, hb9⟩
          have HBZ := Lib.hid (Below.trans HB0.out (hb9.mono (Below.size HB0.out)))
          clear hb9
          go_wp2
          go_ret
          exact ⟨rfl, HBZ.out⟩
        · have hz1 : ((k : Int) == 0) = false := by simp; omega
          by_cases h240 : 240 < sumK Ln k
          · have j0 : (240 : Int) < ((sumK Ln k : Nat) : Int) := by omega
            go_wp2_with fail
            refine (fixed_any _).mono ?_
            rintro e w9 ⟨rfl, hb9⟩
            have HBZ := Lib.hid (Below.trans HB0.out (hb9.mono (Below.size HB0.out)))
            clear hb9
            go_wp2
            go_ret
            exact ⟨rfl, HBZ.out⟩
          · have j0 : ¬ (240 : Int) < ((sumK Ln k : Nat) : Int) := by omega
            have HLE := Lib.hid (show ∀ r, r < k → Ln r ≤ 240 from fun r hr => by have := le_sumK (Ln := Ln) hr; omega)
            obtain ⟨b, off, rfl, hE, hS⟩ := HE.out.resolve_left hz
            have HE2 := Lib.hid hE
            have HS2 := Lib.hid (fun r hr => (hS r hr).2)
            have HWF := Lib.hid (show ∀ q i, q < k → i < Ln q → wfI (Z q i) from fun q i hq hi => by
              obtain ⟨_, _, x, c, _, _, q5⟩ := hE q hq
              exact (q5 i hi).1)
            clear hE hS
            have HCI := Lib.hid (circle_len w (some ⟨b, off, none⟩) k cap Ln Z (by omega) HE.out.two)
            go_wp2_with fail
            refine HCI.out.mono ?_
            rintro e w1 ⟨A1, L1, c1, rfl, hr1, hb1⟩
            obtain ⟨hadb, hhb⟩ : ∃ hadb, decide ((0 : Int) < (L1 : Int)) = hadb := ⟨_, rfl⟩
            have HHD := Lib.hid (show hadb = true ↔ Round k Ln Z by rw [← hhb, decide_eq_true_iff]; exact ⟨fun h => hr1.1 (by omega), fun h => by have := hr1.2 h; omega⟩)
            have hhb2 : decide (0 < L1) = hadb := by rw [← hhb]; simp
            have HB1 := Lib.hid hb1
            have hmk := make_rows k (by omega) (k : Int) rfl
            have HF0 := Lib.hid (fam_start w1 k)
            have HPOS := Lib.hid (show 0 < k by omega)
            clear hr1 hb1 HCI hz h240
            go_wp2
            clear hmk
            simp only [Nat.add_assoc, Nat.reduceAdd]
            go_loopw [57] (fun i wr => ∃ (p c : Nat) (V : Nat → Nat → Value) (R : Nat → Nat → List Int), p ≤ k ∧ i = .int .i64 p ∧ Fam w1 wr k V R ∧ Hid (Inv k Ln Z p p 0 c R) ∧ Hid (c ≤ 1000 * p)) (fun i _ => k - (intOf i).toNat)
            case atStart => exact ⟨0, 0, fun _ _ => .slice none 0 0, fun _ _ => [], Nat.zero_le _, rfl, HF0.out, Lib.hid (Inv.start k Ln Z), Lib.hid (Nat.zero_le _)⟩
            case round =>
              clear HF0
              obtain ⟨wo, hwo⟩ : ∃ wo : World, wo = wr := ⟨_, rfl⟩
              subst hwo
              obtain ⟨p, c, V, R, hp, rfl, hf, HI, HC⟩ := hrel
              have HF := Lib.hid hf
              have HBW := Lib.hid (HB1.out.trans (hf.bel.mono HB1.out.size))
              by_cases hlt : p < k
              · obtain ⟨_, _, x, cx, q3, q4, q5⟩ := (HE2.out.below HBW.out (Nat.le_refl _)) p hlt
                have hxc := HS2.out p hlt x (Ln p) cx
                have q3w : w.cell? ⟨b, off + p, none⟩ = some (.slice x (Ln p) cx) := by
                  obtain ⟨_, hbl, x', cx', q3', _, _⟩ := HE2.out p hlt
                  have := (HBW.out.cell (p := ⟨b, off + p, none⟩) hbl).trans q3'
                  rw [q3] at this; rw [q3', this]
                have HXC := Lib.hid (hxc q3w)
                obtain ⟨D, hD⟩ : ∃ D, Ln p = D := ⟨_, rfl⟩
                rw [hD] at q3 q4 q5
                have HD := Lib.hid hD
                have hD240 : D ≤ 240 := by rw [← hD]; exact HLE.out p hlt
                have HQ3 := Lib.hid q3
                have HQ5 := Lib.hid (fun i hi => (q5 i hi).2)
                have HWP := Lib.hid (show ∀ i, i < D → wfI (Z p i) from fun i hi => (q5 i hi).1)
                have HLT := Lib.hid hlt
                obtain ⟨a0, l0, c0, e0⟩ := (hf.own 0 p (by decide) hlt).sl
                have HBX := Lib.hid (show w1.heap.size ≤ (wo.alloc (.cells #[] 3)).heap.size from (hf.alloc _).bel.size)
                have HOE := Lib.hid (OwnL.empty (heap_alloc_new wo (.cells #[] 3)) hf.bel.size)
                have HLI := Lib.hid HI.out.lay
                clear hf hxc q3w hD q5
                rcases x with _ | ad
                · obtain rfl : D = 0 := by
                    rcases Nat.eq_zero_or_pos D with h | h
                    · exact h
                    · obtain ⟨bb, oo, ea, _⟩ := HQ5.out 0 h; cases ea
                  obtain rfl : cx = 0 := HXC.out rfl
                  go_wp2_with (at_builtin; refine wpList_app_nothing rfl (.tmp 64) (.tmp 65) rfl rfl (base := w1.heap.size) (v := .slice (some ⟨wo.heap.size, 0, none⟩) 0 0) (l := []) rfl rfl HOE.out ?_; have HP := Lib.hid (HF.out.lay (v' := .slice (some ⟨wo.heap.size, 0, none⟩) 0 0) (l' := rowK Z p 0) HLT.out (.cells #[] 3) HOE.out (grown_refl _ _) (.inl rfl)); have y1 := cells_get HP.out.2 p (v := .slice a0 l0 c0) (by rw [← e0]; exact boxOf_get HLT.out); have y2 := cells_free HP.out.2 p)
                  go_loopw [70] (fun i wr => ∃ (j c' : Nat) (V' : Nat → Nat → Value) (R' : Nat → Nat → List Int), j ≤ 0 ∧ i = .int .i64 j ∧ Fam w1 wr k V' R' ∧ Hid (Inv k Ln Z (p + 1) p j c' R') ∧ Hid (c' ≤ 1000 * p + 2 * j)) (fun i _ => 0 - (intOf i).toNat)
                  case atStart => exact ⟨0, c, _, _, Nat.zero_le _, rfl, HP.out.1, Lib.hid (by have := HLI.out; rwa [HD.out] at this), Lib.hid HC.out⟩
                  case round =>
                    clear HP HF HBX HOE q3
                    obtain ⟨j, c', V', R', hj, rfl, hf, HI', HC'⟩ := hrel
                    have HF := Lib.hid hf
                    have HBW' := Lib.hid (HB1.out.trans (hf.bel.mono HB1.out.size))
                    by_cases hlj : j < 0
                    · exact absurd hlj (Nat.not_lt_zero _)
                    · obtain rfl : j = 0 := by omega
                      clear hf
                      go_wp2
                      go_roundw
                      case rel => exact ⟨p + 1, c', V', R', by omega, by go_num, HF.out, Lib.hid (by have := HI'.out; rw [← HD.out] at this; exact this.row), Lib.hid (by have := HC'.out; omega)⟩
                      case measure => simp [intOf]; omega
                · have HSRC := Lib.hid (rowK_src (w := wo.alloc (.cells #[] 3)) (p := p) (D := D) (Z := Z) (ad := ad) (fun i hi => by
                    obtain ⟨bb, oo, ea, hbb, hcj⟩ := HQ5.out i hi
                    exact ⟨bb, oo, ea, (((Below.refl _ _).alloc (Nat.le_refl _) _).cell (p := ⟨bb, oo + i, none⟩) hbb).trans hcj⟩))
                  go_wp2_with (at_builtin; refine wpList_app_ints rfl (.tmp 64) (.tmp 65) rfl rfl (base := w1.heap.size) (v := .slice (some ⟨wo.heap.size, 0, none⟩) 0 0) (l := []) (news := rowK Z p D) rfl rfl HOE.out (rowK_len _ _ _) HSRC.out (by simp; omega) HBX.out ?_; intro A3 L3 c3 w3 hown3 hg3 hb3; rw [List.nil_append] at hown3; have HP := Lib.hid (HF.out.lay (l' := rowK Z p D) HLT.out (.cells #[] 3) hown3 hg3 hb3); have y1 := cells_get HP.out.2 p (v := .slice a0 l0 c0) (by rw [← e0]; exact boxOf_get HLT.out); have y2 := cells_free HP.out.2 p; clear hown3 hg3 hb3)
                  go_loopw [70] (fun i wr => ∃ (j c' : Nat) (V' : Nat → Nat → Value) (R' : Nat → Nat → List Int), j ≤ D ∧ i = .int .i64 j ∧ Fam w1 wr k V' R' ∧ Hid (Inv k Ln Z (p + 1) p j c' R') ∧ Hid (c' ≤ 1000 * p + 2 * j)) (fun i _ => D - (intOf i).toNat)
                  case atStart => exact ⟨0, c, _, _, Nat.zero_le _, rfl, HP.out.1, Lib.hid (by have := HLI.out; rwa [HD.out] at this), Lib.hid HC.out⟩
                  case round =>
                    clear HP HF HBX HOE q3
                    obtain ⟨j, c', V', R', hj, rfl, hf, HI', HC'⟩ := hrel
                    have HF := Lib.hid hf
                    have HBW' := Lib.hid (HB1.out.trans (hf.bel.mono HB1.out.size))
                    by_cases hlj : j < D
                    · obtain ⟨_, hbw, x', cx', r3, _, r5⟩ := (HE2.out.below HBW'.out (Nat.le_refl _)) p HLT.out
                      obtain ⟨bb, oo, ea, hbb, hcj⟩ := (r5 j (by rw [HD.out]; exact hlj)).2
                      have hx' : (.slice x' (Ln p) cx' : Value) = .slice (some ad) D cx := by
                        have h1 := (HBW.out.cell (p := ⟨b, off + p, none⟩) (by obtain ⟨_, hbl, _⟩ := HE2.out p HLT.out; exact hbl))
                        have h2 := (HBW'.out.cell (p := ⟨b, off + p, none⟩) (by obtain ⟨_, hbl, _⟩ := HE2.out p HLT.out; exact hbl))
                        rw [HQ3.out] at h1; rw [r3] at h2; rw [← h1] at h2; exact Option.some.inj h2
                      injection hx' with hx1 hx2 hx3
                      rw [hx1] at ea
                      cases ea
                      have d0 := hcj
                      clear r3 r5 hx1 hx2 hx3 hcj hbw
                      have HLJ := Lib.hid (show j < Ln p by rw [HD.out]; exact hlj)
                      have HWY := Lib.hid (HWP.out j hlj)
                      obtain ⟨y, hy⟩ : ∃ y, Z p j = y := ⟨_, rfl⟩
                      rw [hy] at d0 HWY
                      have HY := Lib.hid hy
                      clear hy hf
                      by_cases hin : 0 ≤ y ∧ y < (k : Int)
                      · obtain ⟨t, rfl⟩ : ∃ t : Nat, y = (t : Int) := ⟨y.toNat, by omega⟩
                        have htk : t < k := by omega
                        have i1 : (t : Int) < (k : Int) := by omega
                        have HTK := Lib.hid htk
                        obtain ⟨a1, l1, c1', e1⟩ := (HF.out.own 1 t (by decide) htk).sl
                        have x1 : wr.cell? ⟨w1.heap.size + 1, t, none⟩ = some (.slice a1 l1 c1') := by rw [← e1]; exact HF.out.cell (by decide) htk
                        have HE1 := Lib.hid e1
                        have HLN1 := Lib.hid (show (R' 1 t).length + 1 ≤ 200000 by have := (HI'.out.len t).1; have := HC'.out; omega)
                        have i2 : (0 : Int) ≤ (t : Int) := by omega
                        clear e1 hin
                        by_cases hup : (p : Int) < (t : Int)
                        · obtain ⟨a2, l2, c2', e2⟩ := (HF.out.own 2 p (by decide) HLT.out).sl
                          have HE2' := Lib.hid e2
                          have HLN2 := Lib.hid (show (R' 2 p).length + 1 ≤ 200000 by have := (HI'.out.len p).2; have := HC'.out; omega)
                          clear e2
                          go_wp2_with (first | (at_builtin; refine wpList_app_ints rfl (.tmp 86) (.tmp 88) rfl rfl (base := w1.heap.size) (v := .slice a1 l1 c1') (l := R' 1 t) (news := [(p : Int)]) rfl rfl (HE1.out ▸ (HF.out.alloc _).own 1 t (by decide) HTK.out) rfl one_news HLN1.out (HF.out.alloc _).bel.size ?_; intro A3 L3 c3 w5 hown5 hg5 hb5; have HP1 := Lib.hid (HF.out.push (by decide) HTK.out _ hown5 (HE1.out ▸ hg5) (HE1.out ▸ hb5)); have y1 := cells_get HP1.out.2 t (v := .slice a1 l1 c1') (HE1.out ▸ boxOf_get HTK.out); have y2 := cells_free HP1.out.2 t; have HV2 := Lib.hid (show upd2 V' 1 t (.slice A3 L3 c3) 2 p = .slice a2 l2 c2' by rw [upd2_g (by decide)]; exact HE2'.out); have HR1 := Lib.hid (show upd2 R' 1 t (R' 1 t ++ [(p : Int)]) 2 p = R' 2 p from upd2_g (by decide)); have x2 := HP1.out.1.cell (g := 2) (p := p) (by decide) HLT.out; rw [HV2.out] at x2; have HO2 := Lib.hid (HP1.out.1.own 2 p (by decide) HLT.out); rw [HV2.out, HR1.out] at HO2; have HR2 := Lib.hid (show upd2 (upd2 R' 1 t (R' 1 t ++ [(p : Int)])) 2 p (upd2 R' 1 t (R' 1 t ++ [(p : Int)]) 2 p ++ [(t : Int)]) = upd2 (upd2 R' 1 t (R' 1 t ++ [(p : Int)])) 2 p (upd2 R' 1 t (R' 1 t ++ [(p : Int)]) 2 p ++ [(t : Int)]) from rfl); clear hown5 hg5 hb5) | (at_builtin; refine wpList_app_ints rfl (.tmp 99) (.tmp 101) rfl rfl (base := w1.heap.size) (v := .slice a2 l2 c2') (l := R' 2 p) (news := [(t : Int)]) rfl rfl (HO2.out.below ((Below.refl _ _).alloc (Nat.le_refl _) _)) rfl (one_news_at (by simp)) HLN2.out (HP1.out.1.alloc _).bel.size ?_; intro A4 L4 c4 w7 hown7 hg7 hb7; have HP2 := Lib.hid (HP1.out.1.push (g := 2) (p := p) (by decide) HLT.out _ (HR1.out ▸ hown7) (HV2.out ▸ hg7) (HV2.out ▸ hb7)); have z1 := cells_get HP2.out.2 p (v := .slice a2 l2 c2') (HV2.out ▸ boxOf_get HLT.out); have z2 := cells_free HP2.out.2 p; clear hown7 hg7 hb7))
                          go_roundw
                          case rel => exact ⟨j + 1, c' + 1 + 1, _, _, by omega, by go_num, HP2.out.1, Lib.hid (by rw [HR2.out]; exact ((HI'.out.back HLT.out HLJ.out HTK.out HY.out).up hup HWY.out)), Lib.hid (by have := HC'.out; omega)⟩
                          case measure => simp [intOf]; omega
                        · go_wp2_with (at_builtin; refine wpList_app_ints rfl (.tmp 86) (.tmp 88) rfl rfl (base := w1.heap.size) (v := .slice a1 l1 c1') (l := R' 1 t) (news := [(p : Int)]) rfl rfl (HE1.out ▸ (HF.out.alloc _).own 1 t (by decide) HTK.out) rfl one_news HLN1.out (HF.out.alloc _).bel.size ?_; intro A3 L3 c3 w5 hown5 hg5 hb5; have HP1 := Lib.hid (HF.out.push (by decide) HTK.out _ hown5 (HE1.out ▸ hg5) (HE1.out ▸ hb5)); have y1 := cells_get HP1.out.2 t (v := .slice a1 l1 c1') (HE1.out ▸ boxOf_get HTK.out); have y2 := cells_free HP1.out.2 t; clear hown5 hg5 hb5)
                          go_roundw
                          case rel => exact ⟨j + 1, c' + 1, _, _, by omega, by go_num, HP1.out.1, Lib.hid (HI'.out.back HLT.out HLJ.out HTK.out HY.out), Lib.hid (by have := HC'.out; omega)⟩
                          case measure => simp [intOf]; omega
                      · have HNO := Lib.hid (show ∀ t : Nat, t < k → Z p j ≠ (t : Int) from fun t ht e => hin ⟨by rw [HY.out] at e; omega, by rw [HY.out] at e; omega⟩)
                        by_cases h0y : 0 ≤ y
                        · have i1 : ¬ y < (k : Int) := fun h => hin ⟨h0y, h⟩
                          have hup : (p : Int) < y := by omega
                          clear hin
                          obtain ⟨a2, l2, c2', e2⟩ := (HF.out.own 2 p (by decide) HLT.out).sl
                          have x2 : wr.cell? ⟨w1.heap.size + 2, p, none⟩ = some (.slice a2 l2 c2') := by rw [← e2]; exact HF.out.cell (by decide) HLT.out
                          have HE2' := Lib.hid e2
                          have HLN2 := Lib.hid (show (R' 2 p).length + 1 ≤ 200000 by have := (HI'.out.len p).2; have := HC'.out; omega)
                          clear e2
                          go_wp2_with (at_builtin; refine wpList_app_ints rfl (.tmp 99) (.tmp 101) rfl rfl (base := w1.heap.size) (v := .slice a2 l2 c2') (l := R' 2 p) (news := [y]) rfl rfl (HE2'.out ▸ (HF.out.alloc _).own 2 p (by decide) HLT.out) rfl one_news HLN2.out (HF.out.alloc _).bel.size ?_; intro A4 L4 c4 w7 hown7 hg7 hb7; have HP2 := Lib.hid (HF.out.push (g := 2) (p := p) (by decide) HLT.out _ hown7 (HE2'.out ▸ hg7) (HE2'.out ▸ hb7)); have z1 := cells_get HP2.out.2 p (v := .slice a2 l2 c2') (HE2'.out ▸ boxOf_get HLT.out); have z2 := cells_free HP2.out.2 p; clear hown7 hg7 hb7)
                          go_roundw
                          case rel => exact ⟨j + 1, c' + 1, _, _, by omega, by go_num, HP2.out.1, Lib.hid ((HI'.out.out HNO.out).up hup HWY.out), Lib.hid (by have := HC'.out; omega)⟩
                          case measure => simp [intOf]; omega
                        · have hup : ¬ (p : Int) < y := by omega
                          clear hin
                          go_wp2
                          go_roundw
                          case rel => exact ⟨j + 1, c', V', R', by omega, by go_num, HF.out, Lib.hid (HI'.out.out HNO.out), Lib.hid (by have := HC'.out; omega)⟩
                          case measure => simp [intOf]; omega
                    · obtain rfl : j = D := by omega
                      clear hf
                      go_wp2
                      go_roundw
                      case rel => exact ⟨p + 1, c', V', R', by omega, by go_num, HF.out, Lib.hid (by have := HI'.out; rw [← HD.out] at this; exact this.row), Lib.hid (by have := HC'.out; omega)⟩
                      case measure => simp [intOf]; omega
              · obtain rfl : p = k := by omega
                clear hf
                obtain ⟨k0, hk0⟩ : ∃ k0, fr % p = k0 := ⟨_, rfl⟩
                obtain ⟨y0, hy0⟩ : ∃ y0, tt % p = y0 := ⟨_, rfl⟩
                have hrem : (fr : Int).tmod (p : Int) = (k0 : Int) := by rw [← hk0]; simp [Int.tmod_eq_emod_of_nonneg]
                have hrem2 : (tt : Int).tmod (p : Int) = (y0 : Int) := by rw [← hy0]; simp [Int.tmod_eq_emod_of_nonneg]
                have hpos : 0 < p := HPOS.out
                have hk0p : k0 < p := by rw [← hk0]; exact Nat.mod_lt _ hpos
                have hy0p : y0 < p := by rw [← hy0]; exact Nat.mod_lt _ hpos
                have hz7 : ((p : Int) == 0) = false := by simp; omega
                have hz8 : ¬ (p : Int) = 0 := by omega
                have hz9 : ¬ p = 0 := by omega
                have hz10 : (p == 0) = false := by simp; omega
                have hwa : IntKind.i64.wrap (tt : Int) = (tt : Int) := IntWalk.i64_in _ (by have := HFT.out.2; omega)
                have hwa2 : wrap64 (tt : Int) = (tt : Int) := IntWalk.wrap64_in _ (by have := HFT.out.2; omega)
                have hwf1 : wrap64 (fr : Int) = (fr : Int) := IntWalk.wrap64_in _ (by have := HFT.out.1; omega)
                have hwf2 : IntKind.i64.wrap (fr : Int) = (fr : Int) := IntWalk.i64_in _ (by have := HFT.out.1; omega)
                have hwb : IntKind.i64.wrap (y0 : Int) = (y0 : Int) := IntWalk.i64_in _ (by omega)
                have i1 : (k0 : Int) < (p : Int) := by omega
                have i2 : (0 : Int) ≤ (k0 : Int) := by omega
                have HK0 := Lib.hid hk0p
                obtain ⟨a3, l3, c3, e3⟩ := (HF.out.own 0 k0 (by decide) hk0p).sl
                have x3 : wo.cell? ⟨w1.heap.size, k0, none⟩ = some (.slice a3 l3 c3) := by rw [← e3]; exact HF.out.cell (g := 0) (by decide) hk0p
                have x3a := cell_alloc_l (.cells #[.int .i64 (y0 : Int)] 3) x3
                have HE3 := Lib.hid e3
                have HLN3 := Lib.hid (show (R 0 k0).length + 1 ≤ 200000 by
                  rw [HI.out.more k0 hk0p, rowK_len]
                  have := HLE.out k0 hk0p; omega)
                have HWY0 := Lib.hid (wfI_nat (q := y0) (by omega))
                have HP1000 := Lib.hid (show p ≤ 1000 by omega)
                clear e3 hk0 hy0
                go_upto_region 28 with fail
                go_region_law (refine step_app_ints rfl (.tmp 115) (.tmp 120) rfl rfl (base := w1.heap.size) (v := .slice a3 l3 c3) (l := R 0 k0) (news := [(y0 : Int)]) rfl rfl (HE3.out ▸ ((HF.out.alloc (.cells #[.int .i64 (y0 : Int)] 3)).drew).own 0 k0 (by decide) HK0.out) rfl one_news HLN3.out (HF.out.alloc (.cells #[.int .i64 (y0 : Int)] 3)).bel.size ?_; intro A5 L5 c5 w5 hown5 hg5 hb5; have HP5 := Lib.hid (HF.out.push (g := 0) (p := k0) (by decide) HK0.out (.cells #[.int .i64 (y0 : Int)] 3) hown5 (HE3.out ▸ (show (wo.alloc (.cells #[.int .i64 (y0 : Int)] 3)).grownBy w5 _ from ⟨hg5.os, hg5.tape, hg5.output, hg5.size, hg5.block⟩)) (HE3.out ▸ hb5)); have y1 : w5.cell? ⟨w1.heap.size, k0, none⟩ = some (.slice a3 l3 c3) := cells_get HP5.out.2 k0 (v := .slice a3 l3 c3) (HE3.out ▸ boxOf_get HK0.out); have y2 : w5.frozen? ⟨w1.heap.size, k0, none⟩ = false := cells_free HP5.out.2 k0; clear hown5 hg5 hb5)
                all_goals
                  have hf6 : Fam w1 (w5.setCell ⟨w1.heap.size, k0, none⟩ (.slice A5 L5 c5)) p (upd2 V 0 k0 (.slice A5 L5 c5)) (upd2 R 0 k0 (R 0 k0 ++ [(y0 : Int)])) := HP5.out.1
                  have hwf0 := HI.out.wf0 HWF.out HWY0.out (k0 := k0)
                  have hrm := HI.out.round_more (k0 := k0) (y := (y0 : Int))
                  obtain ⟨V6, hV6⟩ : ∃ V6, upd2 V 0 k0 (.slice A5 L5 c5) = V6 := ⟨_, rfl⟩
                  obtain ⟨R6, hR6⟩ : ∃ R6, upd2 R 0 k0 (R 0 k0 ++ [(y0 : Int)]) = R6 := ⟨_, rfl⟩
                  have hR61 : R6 1 = R 1 := by rw [← hR6]; funext q; exact upd2_g (by decide)
                  have hR62 : R6 2 = R 2 := by rw [← hR6]; funext q; exact upd2_g (by decide)
                  rw [hV6, hR6] at hf6
                  rw [hR6] at hwf0 hrm
                  generalize w5.setCell ⟨w1.heap.size, k0, none⟩ (.slice A5 L5 c5) = w6 at *
                  clear y1 y2 HP5 hV6 hR6 hrem hrem2 hz7 hz8 hz9 hz10 hwa hwa2 hwf1 hwf2 hwb i1 i2 x3 x3a HE3 HLN3 HWY0
                  have HF6 := Lib.hid hf6
                  have HB6 := Lib.hid (HB1.out.trans (hf6.bel.mono HB1.out.size))
                  have HRW0 := Lib.hid (hf6.rows (g := 0) (by decide) hwf0)
                  have HRW1 := Lib.hid (hf6.rows (g := 1) (by decide) (by rw [hR61]; exact HI.out.wf1 (by have := HP1000.out; omega)))
                  have HRW2 := Lib.hid (hf6.rows (g := 2) (by decide) (by rw [hR62]; exact fun q hq y hy => (HI.out.us q hq y hy).2))
                  have HRM := Lib.hid hrm
                  have HRB : Hid (Round p (lenR (R6 1)) (atR (R6 1)) ↔ Round p Ln Z) := Lib.hid (by rw [hR61]; exact HI.out.round_back)
                  have HRU : Hid (¬ Round p (lenR (R6 2)) (atR (R6 2))) := Lib.hid (by rw [hR62]; exact HI.out.round_up)
                  clear hf6 hwf0 hrm hR61 hR62
                  go_wp2_with fail
                  refine (fixed_any _).mono ?_
                  rintro e w9 ⟨rfl, hb⟩
                  have HBw9 := Lib.hid (HB6.out.trans (hb.mono HB6.out.size))
                  replace HRW0 := Lib.hid (HRW0.out.below hb (Nat.le_refl _))
                  replace HRW1 := Lib.hid (HRW1.out.below hb (Nat.le_refl _))
                  replace HRW2 := Lib.hid (HRW2.out.below hb (Nat.le_refl _))
                  clear hb hhb hhb2
                  cases hadb
                  · have hnr : ¬ Round p Ln Z := fun h => by cases HHD.out.2 h
                    go_wp2_with fail
                    refine (circle_len w9 (some ⟨w1.heap.size + 2, 0, none⟩) p p _ _ HP1000.out (.inr ⟨_, _, rfl, HRW2.out⟩)).mono ?_
                    rintro e w11 ⟨AL11, L11, cL11, rfl, hr, hb⟩
                    have HBw11 := Lib.hid (HBw9.out.trans (hb.mono HBw9.out.size))
                    replace HRW1 := Lib.hid (HRW1.out.below hb (Nat.le_refl _))
                    obtain rfl : L11 = 0 := Nat.eq_zero_of_not_pos fun h0 => HRU.out (hr.1 h0)
                    clear hr hb
                    go_wp2_with fail
                    refine (circle_len w11 (some ⟨w1.heap.size + 1, 0, none⟩) p p _ _ HP1000.out (.inr ⟨_, _, rfl, HRW1.out⟩)).mono ?_
                    rintro e w12 ⟨AL12, L12, cL12, rfl, hr, hb⟩
                    have HBw12 := Lib.hid (HBw11.out.trans (hb.mono HBw11.out.size))
                    obtain rfl : L12 = 0 := Nat.eq_zero_of_not_pos fun h0 => hnr (HRB.out.1 (hr.1 h0))
                    clear hr hb
                    go_wp2
                    go_ret
                    exact ⟨rfl, HBw12.out⟩
                  · have hro : Round p Ln Z := HHD.out.1 rfl
                    go_wp2_with fail
                    refine (circle_len w9 (some ⟨w1.heap.size + 0, 0, none⟩) p p _ _ HP1000.out (.inr ⟨_, _, rfl, HRW0.out⟩)).mono ?_
                    rintro e w10 ⟨AL10, L10, cL10, rfl, hr, hb⟩
                    have HBw10 := Lib.hid (HBw9.out.trans (hb.mono HBw9.out.size))
                    replace HRW1 := Lib.hid (HRW1.out.below hb (Nat.le_refl _))
                    replace HRW2 := Lib.hid (HRW2.out.below hb (Nat.le_refl _))
                    have L10p : 0 < L10 := hr.2 (HRM.out hro)
                    have L10i : (0 : Int) < (L10 : Int) := by omega
                    have L10z : ¬ L10 = 0 := by omega
                    clear hr hb
                    go_wp2_with fail
                    refine (circle_len w10 (some ⟨w1.heap.size + 2, 0, none⟩) p p _ _ HP1000.out (.inr ⟨_, _, rfl, HRW2.out⟩)).mono ?_
                    rintro e w11 ⟨AL11, L11, cL11, rfl, hr, hb⟩
                    have HBw11 := Lib.hid (HBw10.out.trans (hb.mono HBw10.out.size))
                    replace HRW1 := Lib.hid (HRW1.out.below hb (Nat.le_refl _))
                    obtain rfl : L11 = 0 := Nat.eq_zero_of_not_pos fun h0 => HRU.out (hr.1 h0)
                    clear hr hb
                    go_wp2_with fail
                    refine (circle_len w11 (some ⟨w1.heap.size + 1, 0, none⟩) p p _ _ HP1000.out (.inr ⟨_, _, rfl, HRW1.out⟩)).mono ?_
                    rintro e w12 ⟨AL12, L12, cL12, rfl, hr, hb⟩
                    have HBw12 := Lib.hid (HBw11.out.trans (hb.mono HBw11.out.size))
                    have L12p : 0 < L12 := hr.2 (HRB.out.2 hro)
                    have L12i : (0 : Int) < (L12 : Int) := by omega
                    have L12z : ¬ L12 = 0 := by omega
                    clear hr hb
                    go_wp2
                    go_ret
                    exact ⟨rfl, HBw12.out⟩
end Go.Proofs.Ytiimhndiifojnaa.Or
