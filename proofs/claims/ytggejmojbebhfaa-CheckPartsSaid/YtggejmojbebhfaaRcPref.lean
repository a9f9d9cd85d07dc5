/- Whether what is preferred is right. -/
import Derived.Test.YtggejmojbebhfaaRcBxs
namespace Go.Proofs.Ytggejmojbebhfaa.Rc
open Go.RowKit

def virtIs (x : Pref) (s : ByteArray) : Bool := eqS x.virt s
theorem pref1_any (w : World) (v1 : Value) (x : Pref) (s : ByteArray) (P : Nat) (hP : w.cell? ⟨P, 0, none⟩ = some (.string s)) :
    Calls Try.prog 70 #[.agg #[.string x.virt, v1, .int .i64 x.line], .pointer (some ⟨P, 0, none⟩)] w fun e w' => e = .returned (.bool (virtIs x s)) ∧ Below w.heap.size w w' := by
  have hb0 := below_alloc' w (.cells #[.string x.virt, v1, .int .i64 x.line] 63)
  have hlt := World.block_lt_of_cell? w _ hP
  have hc1 := (hb0.cell (p := ⟨P, 0, none⟩) hlt).trans hP
  have hPn : ¬ P = w.heap.size := by simp at hlt; omega
  have HB := Lib.hid hb0
  clear hb0 hP
  go_enter Try.func70, Try.ntmps70
  go_wp2
  refine bodyPost_ret (v := .bool (virtIs x s)) (by simp [results, Try.results70, go_sem, virtIs, eqS, Va.eqS]) rfl ⟨rfl, HB.out⟩

set_option maxRecDepth 100000 in
set_option maxHeartbeats 1600000 in
theorem idx_pref (w : World) (v : Value) (l : List Pref) (s : ByteArray) (P : Nat) (h : RowD prefK w v l) (hP0 : w.cell? ⟨P, 0, none⟩ = some (.string s)) :
    Calls Try.prog 52 #[v, .func (.func 70) #[] #[.pointer (some ⟨P, 0, none⟩)]] w fun e w' => e = .returned (.int .i64 (idx (fun x => virtIs x s) l)) ∧ Below w.heap.size w w' := by
  obtain ⟨A, L, c, rfl, hL, h1, h2⟩ := h.open'
  unfold maxLen at h2
  have H := Lib.hid h
  have HL := Lib.hid hL
  have HP0 := Lib.hid hP0
  have hlp := World.block_lt_of_cell? w _ hP0
  clear h hL hP0
  go_enter Try.func52, Try.ntmps52
  go_wp2
  go_loopw [8] (fun i wr => ∃ k : Nat, k ≤ L ∧ i = .int .i64 k ∧ Hid ((l.take k).any (fun x => virtIs x s) = false) ∧ Below w.heap.size w wr) (fun i _ => L - (intOf i).toNat)
  case atStart => exact ⟨0, Nat.zero_le _, rfl, Lib.hid (by simp), Below.refl _ _⟩
  case round =>
    obtain ⟨k, hk, rfl, hall, hbw⟩ := hrel
    have HBW := Lib.hid hbw
    by_cases hlt : k < L
    · obtain ⟨b, off, v1, rfl, hb, hs, hr, hw, c0, c1, c2⟩ := pref_at (H.out.below hbw (Nat.le_refl _)) hlt
      have qP0 := Lib.hid ((hbw.cell (p := ⟨P, 0, none⟩) hlp).trans HP0.out)
      have hkl : k < l.length := by rw [← HL.out]; exact hlt
      have HS := Lib.hid (any_snoc hkl (fun x => virtIs x s))
      clear hs hr hw
      clear hbw
      go_wp2_with fail
      refine (pref1_any _ _ _ _ P  qP0.out).mono ?_
      rintro e w1 ⟨rfl, hb1⟩
      have HB1 := Lib.hid (HBW.out.trans (hb1.mono HBW.out.size))
      clear hb1
      cases he : virtIs (nth l k) s with
      | true =>
        have Hv := Lib.hid (idx_hit hkl hall.out (p := (fun x => virtIs x s)) he)
        clear he hkl
        go_wp2
        go_ret
        exact ⟨ret_int Hv.out.symm, HB1.out⟩
      | false =>
        have hn : Hid ((l.take (k + 1)).any (fun x => virtIs x s) = false) := Lib.hid (by rw [HS.out, hall.out]; simpa using he)
        clear he hkl
        go_wp2
        go_roundw
        case rel => exact ⟨k + 1, by omega, by go_num, hn, HB1.out⟩
        case measure => simp [intOf]; omega
    · obtain rfl : k = L := by omega
      have Hv := Lib.hid (show idx (fun x => virtIs x s) l = -1 from idx_miss (by
        have := hall.out
        rwa [HL.out, List.take_length] at this))
      clear hbw
      go_wp2
      go_ret
      exact ⟨ret_int Hv.out.symm, HBW.out⟩

theorem has_pref (w : World) (v : Value) (l : List Pref) (s : ByteArray) (P : Nat) (h : RowD prefK w v l) (hP0 : w.cell? ⟨P, 0, none⟩ = some (.string s)) : Calls Try.prog 69 #[v, .func (.func 70) #[] #[.pointer (some ⟨P, 0, none⟩)]] w fun e w' => e = .returned (.bool (l.any (fun x => virtIs x s))) ∧ Below w.heap.size w w' := by
  obtain ⟨r, hr⟩ : ∃ r, idx (fun x => virtIs x s) l = r := ⟨_, rfl⟩
  have hc := idx_pref w v l s P h hP0
  rw [hr] at hc
  have HC := Lib.hid hc
  have HR := Lib.hid hr
  clear h hP0 hc hr
  go_enter Try.func69, Try.ntmps69
  go_wp2_with fail
  refine HC.out.mono ?_
  rintro e w1 ⟨rfl, hb⟩
  go_wp2
  go_ret
  exact ⟨ret_bool (by rw [← idx_any (fun x => virtIs x s) l, HR.out]), hb⟩


theorem has_pref_is (w : World) (v : Value) (l : List Pref) (s : ByteArray) (P : Nat) (h : RowD prefK w v l) (hP0 : w.cell? ⟨P, 0, none⟩ = some (.string s)) (b : Bool) (hb : (l.any fun x => virtIs x s) = b) :
    Calls Try.prog 69 #[v, .func (.func 70) #[] #[.pointer (some ⟨P, 0, none⟩)]] w fun e w' => e = .returned (.bool b) ∧ Below w.heap.size w w' := by subst hb; exact has_pref w v l s P h hP0

set_option maxRecDepth 100000 in
set_option maxHeartbeats 3200000 in
theorem preferRight_any (w : World) (v1 v2 : Value) (x : Rec) (i : Nat) (h : IsRec w v1 v2 x) (hi : i < x.prefs.length) :
    Calls Try.prog 38 #[.agg #[v1, v2], .int .i64 (i : Int)] w fun e w' => e = .returned (.bool (preferB x i)) ∧ Below w.heap.size w w' := by
  obtain ⟨A1, L1, c1, A2, L2, c2, rfl, rfl, hL1, hL2, hc1, hm1, hc2, hm2⟩ := rec_box h
  have hiL : i < L2 := by omega
  obtain ⟨b, off, u, rfl, hbl, hs, hr, hw, p0, p1, p2⟩ := pref_at h.prefs hiL
  obtain ⟨B, M, d, rfl, hM, hd1, hd2⟩ := hr.open'
  unfold maxLen at hd2
  unfold preferB aheadB
  generalize hnf : nth x.prefs i = f at hs hr hw hM p0 p1 p2
  have hx := Bxs.two w #[.slice A1 L1 c1, .slice (some ⟨b, off, none⟩) L2 c2] 25 #[.string f.virt, .slice B M d, .int .i64 f.line] 63
  obtain ⟨q1, hq1⟩ : ∃ q, ((x.prefs.take i).any fun x => virtIs x f.virt) = q := ⟨_, rfl⟩
  obtain ⟨q2, hq2⟩ : ∃ q, virtB x f.virt = q := ⟨_, rfl⟩
  obtain ⟨q3, hq3⟩ : ∃ q, twiceB f.names = q := ⟨_, rfl⟩
  obtain ⟨q4, hq4⟩ : ∃ q, f.names.all (preferN x f.virt) = q := ⟨_, rfl⟩
  rw [show ((x.prefs.take i).any fun o => eqS o.virt f.virt) = q1 from hq1, hq2, hq3, hq4]
  have HQ1 := Lib.hid hq1
  have HQ2 := Lib.hid hq2
  have HQ3 := Lib.hid hq3
  have HQ4 := Lib.hid hq4
  have HR := Lib.hid h
  have HF := Lib.hid hr
  have HX := Lib.hid hx
  have HM := Lib.hid hM
  have HT := Lib.hid ((h.prefs.take (k := i) (by omega)).below hx.bel (Nat.le_refl _))
  have HL1 := Lib.hid hL1
  have k0 : (0 : Int) ≤ (i : Int) := by omega
  have k1 : (i : Int) < (L2 : Int) := by omega
  have k2 : ¬ (c2 : Int) < (i : Int) := by omega
  clear h hr hx hL1 hL2 hq1 hq2 hq3 hq4 hnf hi hM hw hs
  go_enter Try.func38, Try.ntmps38
  go_wp2_with fail
  refine (has_pref_is _ _ _ f.virt (w.heap.size + 1) HT.out (HX.out.get 1 0 rfl rfl) q1 HQ1.out).mono ?_
  rintro e w1 ⟨rfl, hb⟩
  have HX1 := Lib.hid (HX.out.step hb)
  clear hb p0 p1 p2
  cases q1 with
  | true =>
    go_wp2
    go_ret
    exact ⟨rfl, HX1.out.bel⟩
  | false =>
  have x0 := HX1.out.get0 0 (v := .slice A1 L1 c1) rfl rfl
  have x1 := HX1.out.get0 1 (v := .slice (some ⟨b, off, none⟩) L2 c2) rfl rfl
  have y0 := HX1.out.get 1 0 (v := .string f.virt) rfl rfl
  go_wp2_with fail
  refine (virtual_is _ _ _ x f.virt (HR.out.below HX1.out.bel (Nat.le_refl _)) q2 HQ2.out).mono ?_
  rintro e w2 ⟨rfl, hb⟩
  have HX2 := Lib.hid (HX1.out.step hb)
  clear hb x0 x1 y0
  cases q2 with
  | false =>
    go_wp2
    go_ret
    exact ⟨rfl, HX2.out.bel⟩
  | true =>
  have y1 := HX2.out.get 1 1 (v := .slice B M d) rfl rfl
  go_wp2_with fail
  refine (twice_is _ _ _ (HF.out.below HX2.out.bel (Nat.le_refl _)) q3 HQ3.out).mono ?_
  rintro e w2' ⟨rfl, rfl⟩
  cases q3 with
  | true =>
    go_wp2
    go_ret
    exact ⟨rfl, HX2.out.bel⟩
  | false =>
  go_wp2
  clear y1
  go_loopw [37] (fun i wr => ∃ k : Nat, k ≤ M ∧ i = .int .i64 k ∧ Hid ((f.names.take k).all (preferN x f.virt) = true) ∧ Bxs w wr [(#[.slice A1 L1 c1, .slice (some ⟨b, off, none⟩) L2 c2], 25), (#[.string f.virt, .slice B M d, .int .i64 f.line], 63)]) (fun i _ => M - (intOf i).toNat)
  case atStart => exact ⟨0, Nat.zero_le _, rfl, Lib.hid (by simp), HX2.out⟩
  case round =>
    clear HX2 HX1 HX
    obtain ⟨k, hk, rfl, hall, hx⟩ := hrel
    have HX := Lib.hid hx
    by_cases hlt : k < M
    · obtain ⟨b2, off2, rfl, hb2, hs2, d0⟩ := str_at (HF.out.below hx.bel (Nat.le_refl _)) hlt
      have x0 := hx.get0 0 (v := .slice A1 L1 c1) rfl rfl
      have x1 := hx.get0 1 (v := .slice (some ⟨b, off, none⟩) L2 c2) rfl rfl
      have hkl : k < f.names.length := by rw [← HM.out]; exact hlt
      have HSN := Lib.hid (all_snoc hkl (preferN x f.virt))
      have HAT := Lib.hid (fun h => all_at (l := f.names) (p := preferN x f.virt) hkl h)
      generalize hnm : nth f.names k = s at hs2 d0 HSN HAT
      clear hx hkl hnm hs2
      cases hkn : knownB x s with
      | false =>
        have HN := Lib.hid (find_none hkn)
        have HV := Lib.hid (show q4 = false by rw [← HQ4.out]; exact HAT.out (by unfold preferN; rw [hkn]; rfl))
        clear hkn
        go_wp2_with fail
        refine (find_is _ _ _ x s (HR.out.below HX.out.bel (Nat.le_refl _)) (-1) HN.out).mono ?_
        rintro e w3 ⟨rfl, hb⟩
        have HX3 := Lib.hid (HX.out.step hb)
        clear hb x0 x1
        go_wp2_with fail
        go_quiet (fail)
        go_wp2
        go_ret
        exact ⟨ret_bool (by rw [HV.out]; rfl), below_draws HX3.out.bel _⟩
      | true =>
        obtain ⟨m, hfm, hml, hpk⟩ := find_pkg hkn
        have HN := Lib.hid hfm
        have hmL : m < L1 := by rw [HL1.out]; exact hml
        obtain ⟨q, hq⟩ : ∃ q, hasS (nth x.pkgs m).prov f.virt = q := ⟨_, rfl⟩
        have HPN := Lib.hid (show preferN x f.virt s = q by unfold preferN; rw [hkn, hpk, hq]; rfl)
        have HQ := Lib.hid hq
        clear hkn hfm hml hpk hq
        go_wp2_with fail
        refine (find_is _ _ _ x s (HR.out.below HX.out.bel (Nat.le_refl _)) m HN.out).mono ?_
        rintro e w3 ⟨rfl, hb⟩
        have HX3 := Lib.hid (HX.out.step hb)
        clear hb x0 x1
        obtain ⟨b3, off3, e1, e2, e3, e4, e5, e6, rfl, hb3, hp, p0, p1, p2, p3, p4, p5, p6, p7⟩ := pkg_at (HR.out.pkgs.below HX3.out.bel (Nat.le_refl _)) hmL
        obtain ⟨a3, n3, k3, rfl⟩ := hp.prov.sl
        have x0 := HX3.out.get0 0 (v := .slice (some ⟨b3, off3, none⟩) L1 c1) rfl rfl
        have y0 := HX3.out.get 1 0 (v := .string f.virt) rfl rfl
        have m0 : (0 : Int) ≤ (m : Int) := by omega
        have m1 : (m : Int) < (L1 : Int) := by omega
        have m2 : decide ((m : Int) < 0) = false := by simp
        have CQ := Lib.hid (fun n => Va.contains_is (w3.drewN n) (.slice a3 n3 k3) _ f.virt (to_strs (hp.prov.below (below_draws (Below.refl w3.heap.size w3) n) (Nat.le_refl _))) q HQ.out)
        clear hp p0 p1 p2 p3 p5 p6 p7
        go_wp2_with fail
        go_quiet ((go_at_call 42; exact quiet_eq (CQ.out _)))
        cases q with
        | true =>
          have hn : Hid ((f.names.take (k + 1)).all (preferN x f.virt) = true) := Lib.hid (by rw [HSN.out, hall.out, HPN.out]; rfl)
          go_wp2
          go_roundw
          case rel => exact ⟨k + 1, by omega, by go_num, hn, HX3.out.drewN _⟩
          case measure => simp [intOf]; omega
        | false =>
          have HV := Lib.hid (show q4 = false by rw [← HQ4.out]; exact HAT.out HPN.out)
          go_wp2
          go_ret
          exact ⟨ret_bool (by rw [HV.out]; rfl), below_draws HX3.out.bel _⟩
    · obtain rfl : M = k := by omega
      have HV := Lib.hid (show q4 = true by
        have := hall.out
        rw [HM.out, List.take_length] at this
        rw [← HQ4.out]; exact this)
      clear hx
      go_wp2
      go_ret
      exact ⟨ret_bool (by rw [HV.out]; rfl), HX.out.bel⟩
theorem preferRight_is (w : World) (v1 v2 : Value) (x : Rec) (i : Nat) (h : IsRec w v1 v2 x) (hi : i < x.prefs.length) (b : Bool) (hb : preferB x i = b) :
    Calls Try.prog 38 #[.agg #[v1, v2], .int .i64 (i : Int)] w fun e w' => e = .returned (.bool b) ∧ Below w.heap.size w w' := by subst hb; exact preferRight_any w v1 v2 x i h hi
end Go.Proofs.Ytggejmojbebhfaa.Rc