/- What the preferred ones cost, name by name. -/
import Derived.Test.YtaahdhpljlkfjaaGreatZg42
import Derived.Test.YtaahdhpljlkfjaaGreatZg28
import Derived.IntWalk
namespace Go.Proofs.YtaahdhpljlkfjaaGreat.Rc
open Go.RowKit

theorem fName_out {x : Rec} {s : ByteArray} {n : Node} (h : findR x n.name < 0) : fName x s n = 0 := by unfold fName isIn; rw [decide_eq_false (by omega)]; rfl
theorem fName_in {x : Rec} {s : ByteArray} {n : Node} {m : Nat} (h : findR x n.name = m) {b : Bool} (hb : hasS (nth x.pkgs m).prov s = b) : fName x s n = if b then prefR x s n.name else 0 := by
  unfold fName isIn pkN; rw [h, decide_eq_true (by omega), Int.toNat_natCast, Bool.true_and, hb]
set_option maxRecDepth 100000 in
set_option maxHeartbeats 3200000 in
theorem preferred_is (w : World) (v1 v2 vq vg : Value) (x : Rec) (q : List Root) (g : List Node) (h : IsRec w v1 v2 x) (hq : RowD rootK w vq q) (hg : RowD nodeK w vg g) (ht : Tame x g) (hl : q.length ≤ 40) (hN : (namesN x q g).length ≤ 2000) :
    Calls Tryz.prog 25 #[.agg #[v1, v2], .agg #[vq], .agg #[vg]] w fun e w' => e = .returned (.int .i64 (sumL (prefT x g) (namesN x q g))) ∧ Below w.heap.size w w' := by
  obtain ⟨A1, L1, c1, A2, L2, c2, rfl, rfl, hL1, hL2, hc1, hm1, hc2, hm2⟩ := rec_box h
  obtain ⟨A3, L3, c3, rfl⟩ := hq.sl
  obtain ⟨A4, L4, c4, rfl⟩ := hg.sl
  have HX0 := Lib.hid (Bxs.three w #[.slice A1 L1 c1, .slice A2 L2 c2] 25 #[.slice A3 L3 c3] 28 #[.slice A4 L4 c4] 31)
  have HR := Lib.hid h
  have HQ := Lib.hid hq
  have HG := Lib.hid hg
  have HL1 := Lib.hid hL1
  have HL4 := Lib.hid hg.len
  have hcg := hg.cap
  have HTM := Lib.hid ht
  have HL40 := Lib.hid hl
  have hl30 : L4 ≤ 30 := by rw [hg.len]; exact ht.len
  obtain ⟨ns, hns⟩ : ∃ ns, namesN x q g = ns := ⟨_, rfl⟩
  rw [hns] at hN ⊢
  have HNS := Lib.hid hns
  clear h hL1 hL2 hq hg ht hl hns
  go_enter Tryz.func25, Tryz.ntmps25
  go_wp2_with fail
  simp only [Nat.add_assoc, Nat.reduceAdd]
  refine (needed_is _ _ _ _ _ x q g (HR.out.below HX0.out.bel (Nat.le_refl _)) (HQ.out.below HX0.out.bel (Nat.le_refl _)) (HG.out.below HX0.out.bel (Nat.le_refl _)) HTM.out HL40.out).mono ?_
  rintro e w1 ⟨A5, L5, c5, rfl, hr5, hb5⟩
  rw [HNS.out] at hr5
  have HX1 := Lib.hid (HX0.out.step hb5)
  have HN5 := Lib.hid hr5
  have HL5 := Lib.hid hr5.len
  have hc5 := hr5.cap
  have hl5 : L5 ≤ 2000 := by rw [hr5.len]; exact hN
  clear hr5 hb5 HX0 hN
  obtain ⟨wp, hwp⟩ : ∃ wp : World, wp = w1 := ⟨_, rfl⟩
  have HBP := Lib.hid (show Below wp.heap.size wp w1 by rw [hwp]; exact Below.refl _ _)
  rw [← hwp] at HN5
  clear hwp
  go_wp2
  go_loopw [7, 18] (fun s j wr => ∃ (k : Nat) (y : Int), k ≤ L5 ∧ j = .int .i64 k ∧ s = .int .i64 y ∧ Hid (sumL (prefT x g) (ns.take k) = y) ∧ Hid (Bxs w wr [(#[.slice A1 L1 c1, .slice A2 L2 c2], 25), (#[.slice A3 L3 c3], 28), (#[.slice A4 L4 c4], 31)]) ∧ Hid (Below wp.heap.size wp wr)) (fun _ j _ => L5 - (RowKit.intOf j).toNat)
  case atStart => exact ⟨0, 0, Nat.zero_le _, rfl, rfl, Lib.hid rfl, HX1, HBP⟩
  case round =>
    clear HX1 HBP
    obtain ⟨k, y, hk, rfl, rfl, HY, HX, HB⟩ := hrel
    by_cases hlt : k < L5
    · obtain ⟨b3, o3, rfl, hb3, -, s0⟩ := str_at (HN5.out.below HB.out (Nat.le_refl _)) hlt
      have hkl : k < ns.length := by rw [← HL5.out]; exact hlt
      have HSN := Lib.hid (sumL_snoc (prefT x g) hkl)
      have hyb : 0 ≤ y ∧ y ≤ 3000000 := by
        have h1 := sumL_le (f := prefT x g) (B := 1500) (l := ns.take k) fun s _ => prefT_le HTM.out s
        rw [HY.out, List.length_take] at h1
        omega
      obtain ⟨s, hs⟩ : ∃ s, nth ns k = s := ⟨_, rfl⟩
      rw [hs] at s0 HSN
      have g0 : (0 : Int) ≤ (k : Int) := by omega
      have g1 : (k : Int) < (L5 : Int) := by omega
      have x3 := HX.out.get 2 0 (v := .slice A4 L4 c4) rfl rfl
      clear hs hkl
      have HY0 := Lib.hid (show y + sumL (fName x s) (g.take 0) = y by simp [sumL])
      go_wp2
      clear x3 s0
      go_loopw [7, 25] (fun sv j wr => ∃ (i : Nat) (z : Int), i ≤ L4 ∧ j = .int .i64 i ∧ sv = .int .i64 z ∧ Hid (y + sumL (fName x s) (g.take i) = z) ∧ Hid (Bxs w wr [(#[.slice A1 L1 c1, .slice A2 L2 c2], 25), (#[.slice A3 L3 c3], 28), (#[.slice A4 L4 c4], 31)]) ∧ Hid (Below wp.heap.size wp wr)) (fun _ j _ => L4 - (RowKit.intOf j).toNat)
      case atStart => exact ⟨0, y, Nat.zero_le _, rfl, rfl, HY0, HX, HB⟩
      case round =>
        clear HX HB HY0
        obtain ⟨i, z, hi, rfl, rfl, HZS, HX, HB⟩ := hrel
        by_cases hlt2 : i < L4
        · obtain ⟨bb, off, u1, u2, rfl, hbb, hn, p0, p1, p2, p3⟩ := node_at (HG.out.below HX.out.bel (Nat.le_refl _)) hlt2
          have hil : i < g.length := by rw [← HL4.out]; exact hlt2
          have HSI := Lib.hid (sumL_snoc (fName x s) hil)
          have hzb : 0 ≤ z ∧ z ≤ 3001500 := by
            have h1 := sumL_le (f := fName x s) (B := 50) (l := g.take i) fun n _ => name_le HTM.out s n
            have h2 := (HTM.out.take i).len
            have h3 := HZS.out
            omega
          obtain ⟨n, hnn⟩ : ∃ n, nth g i = n := ⟨_, rfl⟩
          rw [hnn] at hn p0 p1 HSI
          obtain ⟨A6, L6, c6, rfl⟩ := hn.sets.sl
          obtain ⟨A7, L7, c7, rfl⟩ := hn.needs.sl
          have x0 := cell_alloc_l (.cells #[.string n.name, .string n.ver, .slice A6 L6 c6, .slice A7 L7 c7] 63) (HX.out.get 0 0 (v := .slice A1 L1 c1) rfl rfl)
          have x1 := cell_alloc_l (.cells #[.string n.name, .string n.ver, .slice A6 L6 c6, .slice A7 L7 c7] 63) (HX.out.get 0 1 (v := .slice A2 L2 c2) rfl rfl)
          rw [Nat.add_zero] at x0 x1
          have hbl := below_alloc' wr (.cells #[.string n.name, .string n.ver, .slice A6 L6 c6, .slice A7 L7 c7] 63)
          have hnew := heap_alloc_new wr (.cells #[.string n.name, .string n.ver, .slice A6 L6 c6, .slice A7 L7 c7] 63)
          generalize hw1 : wr.alloc (.cells #[.string n.name, .string n.ver, .slice A6 L6 c6, .slice A7 L7 c7] 63) = w1 at hbl hnew
          have HW1 := Lib.hid hw1
          have HX1 := Lib.hid (HX.out.step hbl)
          have HB1 := Lib.hid (HB.out.trans (hbl.mono HB.out.size))
          obtain ⟨b9, hb9⟩ : ∃ b9, wr.heap.size = b9 := ⟨_, rfl⟩
          have HE9 := Lib.hid hb9
          have HN1 := Lib.hid (show w1.heap[b9]? = some (.cells #[.string n.name, .string n.ver, .slice A6 L6 c6, .slice A7 L7 c7] 63 (0, 0)) by rw [← hb9]; exact hnew)
          obtain ⟨f, hf⟩ : ∃ f, findR x n.name = f := ⟨_, rfl⟩
          have HF := Lib.hid hf
          have i0 : (0 : Int) ≤ (i : Int) := by omega
          have i1 : (i : Int) < (L4 : Int) := by omega
          clear hn hnn hil hw1 hb9 hbl hnew hf
          go_wp2_with fail
          rw [HW1.out, HE9.out]
          refine (find_is _ _ _ x n.name (HR.out.below HX1.out.bel (Nat.le_refl _)) f HF.out).mono ?_
          rintro e w2 ⟨rfl, hb2⟩
          have HX2 := Lib.hid (HX1.out.step hb2)
          have HB2 := Lib.hid (HB1.out.trans (hb2.mono HB1.out.size))
          have HN2 := Lib.hid (heap_below HN1.out hb2)
          clear hb2 p0 p1 p2 p3 x0 x1 HX HX1 HB HB1 HN1
          by_cases hf0 : f < 0
          · have hf1 : ¬ 0 ≤ f := by omega
            have hf2 : decide (0 ≤ f) = false := decide_eq_false hf1
            have HV := Lib.hid (show y + sumL (fName x s) (g.take (i + 1)) = z by rw [HSI.out, fName_out (by rw [HF.out]; exact hf0), Int.add_zero]; exact HZS.out)
            go_wp2
            go_roundw
            case rel => exact ⟨i + 1, z, by omega, by go_num, rfl, HV, HX2, HB2⟩
            case measure => simp [RowKit.intOf]; omega
          · obtain ⟨m, rfl⟩ : ∃ m : Nat, f = m := ⟨f.toNat, by omega⟩
            have hml := find_lt HF.out
            have hmm1 : m < L1 := by rw [HL1.out]; exact hml
            obtain ⟨b1, o1, t1, t2, t3, t4, t5, t6, rfl, hb1, hpk, -, -, -, -, d4, -, -, -⟩ := pkg_at (HR.out.below HX2.out.bel (Nat.le_refl _)).pkgs hmm1
            obtain ⟨A8, L8, c8, rfl⟩ := hpk.prov.sl
            obtain ⟨b, hb⟩ : ∃ b, hasS (nth x.pkgs m).prov s = b := ⟨_, rfl⟩
            have HPV := Lib.hid (to_strs hpk.prov)
            have HFN := Lib.hid (fName_in (s := s) HF.out hb)
            have HHB := Lib.hid hb
            have x0 := HX2.out.get 0 0 (v := .slice (some ⟨b1, o1, none⟩) L1 c1) rfl rfl
            have x1 := HX2.out.get 0 1 (v := .slice A2 L2 c2) rfl rfl
            rw [Nat.add_zero] at x0 x1
            have n0 := cells_get HN2.out 0 (v := .string n.name) rfl
            have m0 : (0 : Int) ≤ (m : Int) := by omega
            have m1 : (m : Int) < (L1 : Int) := by omega
            clear hpk hml hb
            go_wp2_with fail
            refine (Va.contains_is _ _ _ s HPV.out b HHB.out).mono ?_
            rintro e w3 ⟨rfl, rfl⟩
            cases b with
            | false =>
              have HV := Lib.hid (show y + sumL (fName x s) (g.take (i + 1)) = z by rw [HSI.out, HFN.out]; simpa using HZS.out)
              go_wp2
              go_roundw
              case rel => exact ⟨i + 1, z, by omega, by go_num, rfl, HV, HX2, HB2⟩
              case measure => simp [RowKit.intOf]; omega
            | true =>
              obtain ⟨pr, hpr⟩ : ∃ pr, prefR x s n.name = pr := ⟨_, rfl⟩
              have HPR := Lib.hid hpr
              have hprb := pref_le HTM.out.prefs s n.name
              rw [hpr] at hprb
              have HV := Lib.hid (show y + sumL (fName x s) (g.take (i + 1)) = z + pr by rw [HSI.out, HFN.out, if_pos rfl, HPR.out]; have := HZS.out; omega)
              clear hpr
              go_wp2_with fail
              refine (prefer10_is _ _ _ x s n.name (HR.out.below HX2.out.bel (Nat.le_refl _)) pr HPR.out).mono ?_
              rintro e w4 ⟨rfl, hb4⟩
              have HX4 := Lib.hid (HX2.out.step hb4)
              have HB4 := Lib.hid (HB2.out.trans (hb4.mono HB2.out.size))
              clear hb4 x0 x1 n0 d4
              go_wp2
              go_roundw
              case rel => exact ⟨i + 1, z + pr, by omega, by go_num, rfl, HV, HX4, HB4⟩
              case measure => simp [RowKit.intOf]; omega
        · have HV := Lib.hid (show sumL (prefT x g) (ns.take (k + 1)) = z by
            have h1 := HZS.out
            rw [show i = g.length by rw [← HL4.out]; omega, List.take_length] at h1
            rw [HSN.out, HY.out]; exact h1)
          go_wp2
          go_roundw
          case rel => exact ⟨k + 1, z, by omega, by go_num, rfl, HV, HX, HB⟩
          case measure => simp [RowKit.intOf]; omega
    · have HV := Lib.hid (show sumL (prefT x g) ns = y by
        have h1 := HY.out
        rw [show k = ns.length by rw [← HL5.out]; omega, List.take_length] at h1
        exact h1)
      go_wp2
      go_ret
      exact ⟨ret_int HV.out.symm, HX.out.bel⟩
end Go.Proofs.YtaahdhpljlkfjaaGreat.Rc
