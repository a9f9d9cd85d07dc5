/- LexBack's walk. -/
import Derived.Test.YtbgamneoghhfpaaDoorLxLaw
import Derived.Test.YtbgamneoghhfpaaDoorLxText
import Derived.Test.YtbgamneoghhfpaaDoorLxBackMath
namespace Go.Proofs.YtbgamneoghhfpaaDoor.Lx
open Go.RowKit

theorem code_inl {s : ByteArray} {a c x : Nat} (h : lexS s = .inl (a, c, x)) : codeR (lexS s) = (a, c, x, []) := by rw [h]; rfl
theorem code_inr {s : ByteArray} {ls : List Line} (h : lexS s = .inr ls) : codeR (lexS s) = (0, 0, 0, ls) := by rw [h]; rfl
theorem Lines.num' {w : World} {A : Option Addr} {n c : Nat} {ls : List Line} (h : Lines w (.slice A n c) ls) : n = ls.length := by
  obtain ⟨A', c', e, _⟩ := h
  injection e with e1 e2 e3

set_option maxRecDepth 100000 in
set_option maxHeartbeats 2000000 in
theorem lexBack_any (s : ByteArray) (hs : s.size ≤ maxLen) (w : World) :
    Calls Tryd.prog 4 #[.string s] w fun e w' => e = .returned (.bool true) ∧ Below w.heap.size w w' := by
  unfold maxLen at hs
  by_cases h : 70000 < s.size
  · have h' : (70000 : Int) < (s.size : Int) := by omega
    go_enter Tryd.func4, Tryd.ntmps4
    go_wp2_with fail
    refine (fixed_any _).mono ?_
    rintro e w1 ⟨rfl, hb⟩
    go_wp2
    go_ret
    exact ⟨rfl, hb⟩
  · have h' : ¬ (70000 : Int) < (s.size : Int) := by omega
    cases hR : lexS s with
    | inl e =>
      obtain ⟨a, c, x⟩ := e
      have HC := Lib.hid (code_inl hR)
      have hx := lex_err hR
      have hxn : ((x : Int) != 0) = true := by simp; omega
      clear hR hx
      go_enter Tryd.func4, Tryd.ntmps4
      go_wp2_with fail
      refine (lines_uni s w a c x [] HC.out).mono ?_
      rintro e w1 ⟨A, n, cap, rfl, hl, hb⟩
      have HB1 := Lib.hid (hb.alloc hb.size (.cells #[.int .i64 (a : Nat), .int .i64 (c : Nat)] 25))
      clear hl hb
      go_wp2_with fail
      refine (fixed_any _).mono ?_
      rintro e w2 ⟨rfl, hb2⟩
      have HB2 := Lib.hid (HB1.out.trans (hb2.mono HB1.out.size))
      clear hb2
      go_wp2
      go_ret
      exact ⟨rfl, HB2.out⟩
    | inr ls =>
      obtain ⟨g1, g2, g3⟩ := lex_good hR
      have HC := Lib.hid (code_inr hR)
      have G1 := Lib.hid g1
      have G2 := Lib.hid g2
      have G3 := Lib.hid g3
      have hlen : (mk (textS ls)).size = (textS ls).length := mk_size _
      have HLEN := Lib.hid hlen
      have hts : (mk (textS ls)).size ≤ s.size + 1 := by rw [hlen]; exact g3
      have HTS := Lib.hid hts
      obtain ⟨tt, htt⟩ : ∃ tt, tt = mk (textS ls) := ⟨_, rfl⟩
      have HTT := Lib.hid htt
      have hts2 : tt.size ≤ s.size + 1 := by rw [htt]; exact hts
      clear hR g1 g2 g3 hlen hts htt
      go_enter Tryd.func4, Tryd.ntmps4
      go_wp2_with fail
      refine (lines_uni s w 0 0 0 ls HC.out).mono ?_
      rintro e w1 ⟨A, n, cap, rfl, hl, hb⟩
      have HB1 := Lib.hid (hb.alloc hb.size (.cells #[.int .i64 0, .int .i64 0] 25))
      have hl1 := hl.below ((Below.refl w1.heap.size w1).alloc (Nat.le_refl _) (.cells #[.int .i64 0, .int .i64 0] 25)) (Nat.le_refl _)
      have HL1 := Lib.hid hl1
      have HN := Lib.hid hl.num'
      clear hl hb hl1
      go_wp2_with fail
      refine (text_any _ _ ls HL1.out (by have := G3.out; omega)).mono ?_
      rintro e w2 ⟨rfl, hb2⟩
      have HL2 := Lib.hid (HL1.out.below hb2 (Nat.le_refl _))
      have HB2 := Lib.hid (HB1.out.trans (hb2.mono HB1.out.size))
      clear hb2
      rw [← HTT.out]
      by_cases hbig : 65536 < tt.size
      · have hbig' : (65536 : Int) < (tt.size : Int) := by omega
        have hle : (tt.size : Int) ≤ (s.size : Int) + 1 := by omega
        go_wp2_with fail
        refine (fixed_any _).mono ?_
        rintro e w3 ⟨rfl, hb3⟩
        have HB3 := Lib.hid (HB2.out.trans (hb3.mono HB2.out.size))
        clear hb3
        go_wp2
        go_ret
        exact ⟨rfl, HB3.out⟩
      · have hbig' : ¬ (65536 : Int) < (tt.size : Int) := by omega
        have HBK := Lib.hid (lex_back G1.out G2.out (by have := HLEN.out; have := HTT.out; rw [this] at hbig; omega))
        go_wp2_with fail
        refine (lines_uni tt _ 0 0 0 (relines ls 1) (by rw [HTT.out]; exact code_inr HBK.out)).mono ?_
        rintro e w3 ⟨A3, n3, cap3, rfl, hl3, hb3⟩
        obtain rfl : n3 = n := by rw [hl3.num', relines_len]; exact HN.out.symm
        have hS : mk (textS (relines ls 1)) = tt := by rw [HTT.out, textS_F, textS_F, relines_text ls 1 G2.out]
        have HS := Lib.hid hS
        have hA := (Below.refl w3.heap.size w3).alloc (Nat.le_refl _) (.cells #[.int .i64 0, .int .i64 0] 25)
        have HL3 := Lib.hid ((HL2.out.below hb3 (Nat.le_refl _)).below hA (Nat.le_refl _))
        have HM3 := Lib.hid (hl3.below hA (Nat.le_refl _))
        have HB3 := Lib.hid ((HB2.out.trans (hb3.mono HB2.out.size)).trans (hA.mono (HB2.out.trans (hb3.mono HB2.out.size)).size))
        have nn : ((n3 : Int) != (n3 : Int)) = false := by simp
        have hno : ¬ ((s.size : Int) + 1) < (tt.size : Int) := by omega
        have s1 : (tt.toList == tt.toList) = true := by simp
        have s2 : (tt.toList != tt.toList) = false := by simp
        clear hb3 hl3 hS hA h'
        go_wp2_with fail
        refine (text_any _ _ (relines ls 1) HM3.out (by have h1 := G3.out; have h2 := G2.out; rw [textS_F, relines_text ls 1 h2, ← textS_F]; omega)).mono ?_
        rw [HS.out]
        rintro e w4 ⟨rfl, hb4⟩
        have HL4 := Lib.hid (HL3.out.below hb4 (Nat.le_refl _))
        have HM4 := Lib.hid (HM3.out.below hb4 (Nat.le_refl _))
        have HB4 := Lib.hid (HB3.out.trans (hb4.mono HB3.out.size))
        clear hb4
        go_wp2
        have H3 := Lib.hid HL4.out.open'
        have H3' := Lib.hid HM4.out.open'
        have hrel0 : ∀ k, k < n3 → (nthL (relines ls 1) k).1 = 1 + k ∧ wtexts (nthL (relines ls 1) k).2 = wtexts (nthL ls k).2 := fun k hk => relines_get ls 1 k G2.out (by rw [← HN.out]; exact hk)
        have HREL := Lib.hid hrel0
        have hn2000 : n3 ≤ 2000 := by have h1 := G1.out; have h2 := HN.out; omega
        clear hrel0 nn hno s1 s2 hbig hbig' hts2 h
        go_loopw [70] (fun i wr => ∃ k : Nat, k ≤ n3 ∧ i = .int .i64 k ∧ Below w4.heap.size w4 wr) (fun i _ => n3 - (intOf i).toNat)
        case atStart => exact ⟨0, Nat.zero_le _, rfl, Below.refl _ _⟩
        case round =>
          obtain ⟨k, hk, rfl, hbw⟩ := hrel
          have HB := Lib.hid hbw
          by_cases hlt : k < n3
          · obtain ⟨A0, L0, c0, e0, hL0, p1, p2, p3⟩ := H3.out
            obtain ⟨A0', L0', c0', e0', hL0', p1', p2', p3'⟩ := H3'.out
            injection e0 with x1 x2 x3
            injection e0' with y1 y2 y3
            subst x1; subst x2; subst x3; subst y1; subst y3
            rw [← y2] at p1' p3'
            obtain ⟨b, rfl, hb, hc⟩ := p3 (by omega)
            obtain ⟨b', rfl, hb', hc'⟩ := p3' (by omega)
            obtain ⟨g1, u, g2, g3⟩ := hc k hlt
            obtain ⟨g1', u', g2', g3'⟩ := hc' k hlt
            obtain ⟨r1, r2⟩ := HREL.out k hlt
            obtain ⟨A1, L1, c1, rfl, hL1, k1, k2, k3⟩ := g3.open'
            obtain ⟨A2, L2, c2, rfl, hL2, l1, l2, l3⟩ := g3'.open'
            have hLL2 : L2 = L1 := by rw [hL1, hL2]; exact wtexts_len r2
            subst hLL2
            unfold maxLen at k2 l2
            have q2 := (hbw.cell (p := ⟨b, k * 2 + 1, none⟩) hb).trans g2
            have q3 := (hbw.cell (p := ⟨b', k * 2, none⟩) hb').trans g1'
            have q4 := (hbw.cell (p := ⟨b', k * 2 + 1, none⟩) hb').trans g2'
            rw [r1] at q3
            have K3 := Lib.hid k3
            have L3 := Lib.hid l3
            have G2' := Lib.hid g2
            have G4' := Lib.hid g2'
            have HBb := Lib.hid hb
            have HBb' := Lib.hid hb'
            have R2 := Lib.hid r2
            have HL1 := Lib.hid hL1
            have HL2' := Lib.hid hL2
            have i0 : (0 : Int) ≤ (k : Int) := by omega
            have i1 : (k : Int) < (n3 : Int) := by omega
            have e1 : ((L2 : Int) != (L2 : Int)) = false := by simp
            have e2 : (((1 : Int) + (k : Int)) != (k : Int) + 1) = false := by simp; omega
            clear hc hc' g1 g1' g2 g2' g3 g3' hL1 hL2 k3 l3 hbw r1 r2 p3 p3' hL0 hL0' p1 p1' p2 p2' y2
            go_wp2_with fail
            go_quiet (fail)
            clear e1 e2 q3
            go_wp2
            clear q2 q4
            go_loopw [102] (fun i wx => ∃ j : Nat, j ≤ L2 ∧ i = .int .i64 j ∧ Below w4.heap.size w4 wx) (fun i _ => L2 - (intOf i).toNat)
            case atStart => exact ⟨0, Nat.zero_le _, rfl, below_draws HB.out _⟩
            case round =>
              clear HB
              obtain ⟨j, hj, rfl, hbx⟩ := hrel
              have HBX := Lib.hid hbx
              by_cases hjl : j < L2
              · obtain ⟨d, rfl, hd, hcd⟩ := K3.out (by omega)
                obtain ⟨d', rfl, hd', hcd'⟩ := L3.out (by omega)
                have r2 := (hbx.cell (p := ⟨d, j * 2 + 1, none⟩) hd).trans (hcd j hjl).2
                have r4 := (hbx.cell (p := ⟨d', j * 2 + 1, none⟩) hd').trans (hcd' j hjl).2
                rw [wtexts_get R2.out (by rw [← HL2'.out]; exact hjl)] at r4
                have q2 := (hbx.cell (p := ⟨b, k * 2 + 1, none⟩) HBb.out).trans G2'.out
                have q4 := (hbx.cell (p := ⟨b', k * 2 + 1, none⟩) HBb'.out).trans G4'.out
                have j0 : (0 : Int) ≤ (j : Int) := by omega
                have j1 : (j : Int) < (L2 : Int) := by omega
                generalize (nthW (nthL ls k).2 j).2 = y at r2 r4
                have e1 : (y.toList == y.toList) = true := by simp
                have e2 : (y.toList != y.toList) = false := by simp
                clear hcd hcd' hbx
                go_wp2_with fail
                go_quiet (fail)
                go_wp2
                go_roundw
                case rel => exact ⟨j + 1, by omega, by go_num, below_draws HBX.out _⟩
                case measure => simp [intOf]; omega
              · obtain rfl : j = L2 := by omega
                clear hbx
                go_wp2
                go_roundw
                case rel => exact ⟨k + 1, by omega, by go_num, HBX.out⟩
                case measure => simp [intOf]; omega
          · clear hbw
            go_wp2_with fail
            refine (fixed_any _).mono ?_
            rintro e w5 ⟨rfl, hb5⟩
            have HB5 := Lib.hid ((HB4.out.trans (HB.out.mono HB4.out.size)).trans (hb5.mono (HB4.out.trans (HB.out.mono HB4.out.size)).size))
            clear hb5
            go_wp2
            go_ret
            exact ⟨rfl, HB5.out⟩
end Go.Proofs.YtbgamneoghhfpaaDoor.Lx
