/- The document's word on a package by itself. -/
import Derived.Test.YtaahdhpljlkfjaaGreatZg50
namespace Go.Proofs.YtaahdhpljlkfjaaGreat.Rc
open Go.RowKit

theorem find_self {x : Rec} {i : Nat} (hi : i < x.pkgs.length) : 0 ≤ findR x (nth x.pkgs i).name ∧ findR x (nth x.pkgs i).name ≤ (i : Int) := by
  have hany : x.pkgs.any (fun p => nameIs p (nth x.pkgs i).name) = true := any_at hi (Va.eqS_iff.2 rfl)
  have h0 : 0 ≤ findR x (nth x.pkgs i).name := by
    have := idx_any (fun p => nameIs p (nth x.pkgs i).name) x.pkgs
    rw [hany, decide_eq_true_iff] at this
    exact this
  refine ⟨h0, ?_⟩
  unfold findR idx
  split
  · next h =>
    have : x.pkgs.findIdx (fun p => nameIs p (nth x.pkgs i).name) ≤ i := by
      rw [← Nat.not_lt]
      intro hlt
      have := List.not_of_lt_findIdx hlt
      rw [← nth_lt hi] at this
      exact Bool.false_ne_true (this.symm.trans (Va.eqS_iff.2 rfl))
    omega
  · omega
theorem ne_lt {n i : Int} (h : n ≤ i) : (n != i) = decide (n < i) := by
  rw [Bool.eq_iff_iff]; simp; omega
theorem vmayR_is (w : World) (v : Value) (l : List Var) (h : RowD varK w v l) (b : Bool) (hb : Va.mayB l = b) :
    Calls Tryz.prog 62 #[v] w fun e w' => e = .returned (.bool b) ∧ Below w.heap.size w w' := by subst hb; exact Va.refMay_any w v l (to_vars h)

set_option maxRecDepth 100000 in
set_option maxHeartbeats 6400000 in
theorem refAlone_any (w : World) (v1 v2 : Value) (x : Rec) (i : Nat) (h : IsRec w v1 v2 x) (hi : i < x.pkgs.length) (hl : x.pkgs.length ≤ 1000) :
    Calls Tryz.prog 36 #[.agg #[v1, v2], .int .i64 (i : Int)] w fun e w' => e = .returned (.int .u8 (pkgCode x i)) ∧ Below w.heap.size w w' := by
  obtain ⟨A1, L1, c1, A2, L2, c2, rfl, rfl, hL1, hL2, hc1, hm1, hc2, hm2⟩ := rec_box h
  have hiL : i < L1 := by omega
  obtain ⟨b, off, e1, e2, e3, e4, e5, e6, rfl, hbl, hp, p0, p1, p2, p3, p4, p5, p6, p7⟩ := pkg_at h.pkgs hiL
  obtain ⟨⟨a1, n1, k1, rfl⟩, ⟨a2, n2, k2, rfl⟩, ⟨a3, n3, k3, rfl⟩, ⟨a4, n4, k4, rfl⟩, ⟨a5, n5, k5, rfl⟩, ⟨a6, n6, k6, rfl⟩⟩ := hp.sls
  have hself := find_self hi
  unfold pkgCode
  generalize hnp : nth x.pkgs i = p at hp hself p0 p1 p2 p3 p4 p5 p6 p7
  have ht := Bxs.two w #[.slice (some ⟨b, off, none⟩) L1 c1, .slice A2 L2 c2] 25 #[.string p.name, .int .i64 p.line, .slice a1 n1 k1, .slice a2 n2 k2, .slice a3 n3 k3, .slice a4 n4 k4, .slice a5 n5 k5, .slice a6 n6 k6] 51
  obtain ⟨n, hn⟩ : ∃ n, findR x p.name = n := ⟨_, rfl⟩
  rw [hn] at hself
  obtain ⟨q1, hq1⟩ : ∃ q, decide (n < (i : Int)) = q := ⟨_, rfl⟩
  have hq1' : (n != (i : Int)) = q1 := by rw [← hq1]; exact ne_lt hself.2
  obtain ⟨q2, hq2⟩ : ∃ q, provB x p.name = q := ⟨_, rfl⟩
  obtain ⟨q3, hq3⟩ : ∃ q, decide (p.rels.length = 0) = q := ⟨_, rfl⟩
  obtain ⟨q4, hq4⟩ : ∃ q, tooManyB p = q := ⟨_, rfl⟩
  have hq4' : q4 = decide (10 < n1 ∨ 16 < n4 ∨ 8 < n5 ∨ 4 < n3 ∨ 8 < n6) := by
    rw [← hq4]
    unfold tooManyB
    rw [← hp.rels.len, ← hp.deps.len, ← hp.cons.len, ← hp.prov.len, ← hp.files.len]
  obtain ⟨q5, hq5⟩ : ∃ q, twiceB (p.rels.map (·.1)) = q := ⟨_, rfl⟩
  obtain ⟨q6, hq6⟩ : ∃ q, Va.mayB p.vars = q := ⟨_, rfl⟩
  obtain ⟨q7, hq7⟩ : ∃ q, twiceB p.prov = q := ⟨_, rfl⟩
  obtain ⟨q8, hq8⟩ : ∃ q, twiceB p.files = q := ⟨_, rfl⟩
  obtain ⟨rr, hrr⟩ : ∃ r, codeOf q1 q2 q3 q4 q5 q6 q7 q8 = r := ⟨_, rfl⟩
  rw [hn, hq1, hq2, hq3, hq4, hq5, hq6, hq7, hq8, hrr]
  have HRR := Lib.hid hrr
  have HN := Lib.hid hn
  have HQ2 := Lib.hid hq2
  have HQ4 := Lib.hid hq4'
  have HQ5 := Lib.hid hq5
  have HQ6 := Lib.hid hq6
  have HQ7 := Lib.hid hq7
  have HQ8 := Lib.hid hq8
  have hq3' : ((n1 : Int) == 0) = q3 := by rw [← hq3, hp.rels.len, Bool.eq_iff_iff]; simp
  have HR := Lib.hid h
  have HP := Lib.hid hp
  have HT := Lib.hid ht
  have HL := Lib.hid hl
  have HLR := Lib.hid hp.rels.len
  obtain ⟨hr1, hr2⟩ := hp.rels.cap
  have k0 : (0 : Int) ≤ (i : Int) := by omega
  have kk1 : (i : Int) < (L1 : Int) := by omega
  clear h hp ht hl hL1 hL2 hn hq1 hq2 hq3 hq4 hq4' hq5 hq6 hq7 hq8 hnp hi hself hrr
  go_enter Tryz.func36, Tryz.ntmps36
  go_wp2_with fail
  refine (refFind_is _ _ _ x p.name (HR.out.below HT.out.bel (Nat.le_refl _)) n HN.out).mono ?_
  rintro e w1 ⟨rfl, hb⟩
  have HT1 := Lib.hid (HT.out.step hb)
  clear hb p0 p1 p2 p3 p4 p5 p6 p7
  cases q1 with
  | true =>
    go_wp2
    go_ret
    exact ⟨ret_int HRR.out, HT1.out.bel⟩
  | false =>
  have x0 := HT1.out.get0 0 (v := .slice (some ⟨b, off, none⟩) L1 c1) rfl rfl
  have x1 := HT1.out.get0 1 (v := .slice A2 L2 c2) rfl rfl
  have y0 := HT1.out.get 1 0 (v := .string p.name) rfl rfl
  go_wp2_with fail
  refine (refProviders_any _ _ _ x p.name (HR.out.below HT1.out.bel (Nat.le_refl _)) HL.out).mono ?_
  rintro e w2 ⟨A, Lp, c, rfl, hown, hb⟩
  have HT2 := Lib.hid (HT1.out.step hb)
  have hq2' : decide (0 < Lp) = q2 := by rw [← HQ2.out, ← provs_any, ← hown.len]
  clear hb hown x0 x1 y0
  cases q2 with
  | true =>
    go_wp2
    go_ret
    exact ⟨ret_int HRR.out, HT2.out.bel⟩
  | false =>
  have y2 := HT2.out.get 1 2 (v := .slice a1 n1 k1) rfl rfl
  cases q3 with
  | true =>
    go_wp2
    go_ret
    exact ⟨ret_int HRR.out, HT2.out.bel⟩
  | false =>
  have y4 := HT2.out.get 1 4 (v := .slice a3 n3 k3) rfl rfl
  have y5 := HT2.out.get 1 5 (v := .slice a4 n4 k4) rfl rfl
  have y6 := HT2.out.get 1 6 (v := .slice a5 n5 k5) rfl rfl
  have y7 := HT2.out.get 1 7 (v := .slice a6 n6 k6) rfl rfl
  cases q4 with
  | true =>
    have hd := HQ4.out
    have hd' : 10 < n1 ∨ 16 < n4 ∨ 8 < n5 ∨ 4 < n3 ∨ 8 < n6 := by simpa using hd.symm
    clear hd
    go_wp2_with fail
    all_goals first
      | (go_ret; exact ⟨ret_int HRR.out, HT2.out.bel⟩)
      | (exfalso; omega)
  | false =>
    have hd := HQ4.out
    have hd' : ¬ (10 < n1 ∨ 16 < n4 ∨ 8 < n5 ∨ 4 < n3 ∨ 8 < n6) := by simpa using hd.symm
    have g1 : ¬ (10 : Int) < (n1 : Int) := by omega
    have g2 : ¬ (16 : Int) < (n4 : Int) := by omega
    have g3 : ¬ (8 : Int) < (n5 : Int) := by omega
    have g4 : ¬ (4 : Int) < (n3 : Int) := by omega
    have g5 : ¬ (8 : Int) < (n6 : Int) := by omega
    have hn1 : n1 ≤ 10 := by omega
    have HZ := Lib.hid (HT2.out.alloc (.cells #[] 9))
    have HO := Lib.hid (OwnV.empty (enc := encS) (heap_alloc_new w2 (.cells #[] 9)) HT2.out.bel.size)
    have y2' := cell_alloc_l (.cells #[] 9) y2
    clear hd hd'
    go_wp2
    clear y2 y2' y4 y5 y6 y7
    go_loopw [6, 61] (fun t i wr => ∃ (k : Nat) (T : Option Addr) (n c : Nat), k ≤ n1 ∧ i = .int .i64 k ∧ t = .slice T n c ∧ OwnS wr w.heap.size (.slice T n c) ((p.rels.take k).map (·.1)) ∧ Bxs w wr [(#[.slice (some ⟨b, off, none⟩) L1 c1, .slice A2 L2 c2], 25), (#[.string p.name, .int .i64 p.line, .slice a1 n1 k1, .slice a2 n2 k2, .slice a3 n3 k3, .slice a4 n4 k4, .slice a5 n5 k5, .slice a6 n6 k6], 51)]) (fun _ i _ => n1 - (intOf i).toNat)
    case atStart => exact ⟨0, _, _, _, Nat.zero_le _, rfl, rfl, by simpa using HO.out, HZ.out⟩
    case round =>
      clear HO HZ
      obtain ⟨k, T, n, c, hk, rfl, rfl, hown, hx⟩ := hrel
      have HO := Lib.hid hown
      have HX := Lib.hid hx
      by_cases hlt : k < n1
      · obtain ⟨b2, off2, rfl, hb2, hs, d0, d1⟩ := rel_at (HP.out.rels.below hx.bel (Nat.le_refl _)) hlt
        have y2 := hx.get 1 2 (v := .slice (some ⟨b2, off2, none⟩) n1 k1) rfl rfl
        have HX1 := Lib.hid (hx.alloc (.cells #[.string (nth p.rels k).1] 9))
        have HO1 := Lib.hid (HO.out.alloc (.cells #[.string (nth p.rels k).1] 9))
        have hkl : k < p.rels.length := by rw [← HLR.out]; exact hlt
        have HMS := Lib.hid (map_snoc hkl (fun x : Rel => x.1))
        have H0 := Lib.hid HO1.out.raw
        have H1 := Lib.hid (show (List.map encS (List.map (fun x : Rel => x.1) (List.take k p.rels))).length ≤ 200000 by rw [List.length_map, List.length_map, List.length_take]; omega)
        have H2 := Lib.hid HX1.out.bel.size
        have H3 := Lib.hid (heap_alloc_new wr (.cells #[.string (nth p.rels k).1] 9))
        clear hown hx hkl hs
        go_wp2_with (at_builtin; refine wpList_app_one oneStr ?_ (.tmp 64) (.tmp 71) ?_ ?_ (base := w.heap.size) (X := wr.heap.size) (u := .string (nth p.rels k).1) (xs := ((p.rels.take k).map (·.1)).map encS) ?_ ?_ H0.out H3.out rfl H1.out H2.out ?_; rfl; rfl; rfl; rfl; rfl; intro A' L' c' w' hown' hgrow'; have HO2 := Lib.hid (OwnV.snoc hown'); have HX2 := Lib.hid (HX1.out.grown H0.out (show ∀ T ∈ [25, 51], 9 ≠ T by decide) hgrow'); clear hown' hgrow')
        go_roundw
        case rel => exact ⟨k + 1, A', L', c', by omega, by go_num, rfl, by rw [HMS.out]; exact HO2.out, HX2.out⟩
        case measure => simp [intOf]; omega
      · obtain rfl : n1 = k := by omega
        have HV := Lib.hid (show RowD strK wr (.slice T n c) (p.rels.map (·.1)) by
          have h := hown
          rw [HLR.out, List.take_length] at h
          exact h.row (K := strK) rfl (fun s hs => by
            obtain ⟨r, hr, rfl⟩ := List.mem_map.1 hs
            exact ⟨rfl, (rels_small HP.out.rels) r hr⟩))
        clear hown hx HO
        go_wp2_with fail
        refine (refTwice_is _ _ _ HV.out q5 HQ5.out).mono ?_
        rintro e w4 ⟨rfl, hb⟩
        have HT4 := Lib.hid (HX.out.step hb)
        clear hb HV
        cases q5 with
        | true =>
          go_wp2
          go_ret
          exact ⟨ret_int HRR.out, HT4.out.bel⟩
        | false =>
        have y3 := HT4.out.get 1 3 (v := .slice a2 n2 k2) rfl rfl
        go_wp2_with fail
        refine (vmayR_is _ _ _ (HP.out.vars.below HT4.out.bel (Nat.le_refl _)) q6 HQ6.out).mono ?_
        rintro e w5 ⟨rfl, hb⟩
        have HT5 := Lib.hid (HT4.out.step hb)
        clear hb y3
        cases q6 with
        | false =>
          go_wp2
          go_ret
          exact ⟨ret_int HRR.out, HT5.out.bel⟩
        | true =>
        have y4 := HT5.out.get 1 4 (v := .slice a3 n3 k3) rfl rfl
        go_wp2_with fail
        refine (refTwice_is _ _ _ (HP.out.prov.below HT5.out.bel (Nat.le_refl _)) q7 HQ7.out).mono ?_
        rintro e w6 ⟨rfl, hb⟩
        have HT6 := Lib.hid (HT5.out.step hb)
        clear hb y4
        cases q7 with
        | true =>
          go_wp2
          go_ret
          exact ⟨ret_int HRR.out, HT6.out.bel⟩
        | false =>
        have y7 := HT6.out.get 1 7 (v := .slice a6 n6 k6) rfl rfl
        go_wp2_with fail
        refine (refTwice_is _ _ _ (HP.out.files.below HT6.out.bel (Nat.le_refl _)) q8 HQ8.out).mono ?_
        rintro e w7 ⟨rfl, hb⟩
        have HT7 := Lib.hid (HT6.out.step hb)
        clear hb y7
        cases q8 with
        | true =>
          go_wp2
          go_ret
          exact ⟨ret_int HRR.out, HT7.out.bel⟩
        | false =>
          go_wp2
          go_ret
          exact ⟨ret_int HRR.out, HT7.out.bel⟩
theorem refAlone_is (w : World) (v1 v2 : Value) (x : Rec) (i : Nat) (h : IsRec w v1 v2 x) (hi : i < x.pkgs.length) (hl : x.pkgs.length ≤ 1000) (c : Int) (hc : pkgCode x i = c) :
    Calls Tryz.prog 36 #[.agg #[v1, v2], .int .i64 (i : Int)] w fun e w' => e = .returned (.int .u8 c) ∧ Below w.heap.size w w' := by subst hc; exact refAlone_any w v1 v2 x i h hi hl
end Go.Proofs.YtaahdhpljlkfjaaGreat.Rc
