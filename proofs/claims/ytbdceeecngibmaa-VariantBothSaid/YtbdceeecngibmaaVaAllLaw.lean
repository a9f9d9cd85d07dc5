/- VariantAll's walk. -/
import Derived.Test.YtbdceeecngibmaaVaPick
import Derived.Test.YtbdceeecngibmaaVaOpen
namespace Go.Proofs.Ytbdceeecngibmaa.Va
open Go.RowKit

theorem refMay_is (w : World) (v : Value) (l : List Var) (h : Vars w v l) (b : Bool) (hb : mayB l = b) :
    Calls Try.prog 16 #[v] w fun e w' => e = .returned (.bool b) ∧ Below w.heap.size w w' := by subst hb; exact refMay_any w v l h
theorem refLegal_is (w : World) (v u : Value) (l : List Var) (s : List Set1) (h : Vars w v l) (hs : Sets w u s) (b : Bool) (hb : legalB l s = b) :
    Calls Try.prog 18 #[v, u] w fun e w' => e = .returned (.bool b) ∧ Below w.heap.size w w' := by subst hb; exact refLegal_any w v u l s h hs

set_option maxRecDepth 100000 in
set_option maxHeartbeats 3200000 in
theorem variantAll_any (v : Value) (l : List Var) (w : World) (h : Vars w v l) :
    Calls Try.prog 5 #[v] w fun e w' => e = .returned (.bool true) ∧ Below w.heap.size w w' := by
  have hall := h
  obtain ⟨A, L, c, rfl, hL, h1, h2, h3⟩ := h.open'
  unfold maxLen at h2
  have HL := Lib.hid hL
  have H3 := Lib.hid h3
  have H := Lib.hid hall
  have hls := hall.small
  have HSM := Lib.hid hls
  clear h hL h3 hall hls
  go_enter Try.func5, Try.ntmps5
  go_wp2_with fail
  refine (greatV_any _ _ l H.out).mono ?_
  rintro e w' ⟨b0, rfl, hb0, rfl⟩
  cases b0 with
  | true =>
    clear hb0
    go_wp2_with fail
    refine (fixed_any _).mono ?_
    rintro e w1 ⟨rfl, hb⟩
    go_wp2
    go_ret
    exact ⟨rfl, hb⟩
  | false =>
    clear hb0
    go_wp2_with fail
    refine (all_any _ _ l H.out).mono ?_
    rintro e w1 ⟨T, n, cp, us, rfl, hn, hown, hb1⟩
    have HN := Lib.hid hn
    have HO1 := Lib.hid hown
    have HB1 := Lib.hid hb1
    have HV1 := Lib.hid (H.out.below hb1 (Nat.le_refl _))
    clear hn hown hb1
    cases hm : mayB l with
    | false =>
      have HM := Lib.hid hm
      have hn0 : n = 0 := by rw [HN.out]; unfold allB; rw [hm]; rfl
      subst hn0
      clear hm
      go_wp2_with fail
      refine (refMay_is _ _ l HV1.out false HM.out).mono ?_
      rintro e w2 ⟨rfl, hb2⟩
      have HB2 := Lib.hid (HB1.out.trans (hb2.mono HB1.out.size))
      clear hb2
      go_wp2_with fail
      refine (fixed_any _).mono ?_
      rintro e w3 ⟨rfl, hb3⟩
      have HB3 := Lib.hid (HB2.out.trans (hb3.mono HB2.out.size))
      clear hb3
      go_wp2
      go_ret
      exact ⟨rfl, HB3.out⟩
    | true =>
      have HM := Lib.hid hm
      have hg := all_get hm
      have hnp : n = prodV l := by rw [HN.out, hg.1]
      have HNP := Lib.hid hnp
      have HGET := Lib.hid hg.2
      have hp256 := prod_le hm
      have HP := Lib.hid hp256
      have HLV := Lib.hid (fun k hk => mayB_vals hm (k := k) hk)
      have hl4 := mayB_len hm
      have hL4 : L ≤ 4 := by rw [HL.out]; exact hl4
      have hn256 : n ≤ 256 := by
        have h1 := hp256 l.length (Nat.le_refl _)
        rw [List.take_length] at h1
        rw [hnp]; exact Nat.le_trans h1 (pow_le hl4)
      have HPK := Lib.hid (pick_legal (mayB_pos hm))
      clear hm hg hnp hp256 hl4
      go_wp2_with fail
      refine (refMay_is _ _ l HV1.out true HM.out).mono ?_
      rintro e w2 ⟨rfl, hb2⟩
      have HB2 := Lib.hid (HB1.out.trans (hb2.mono HB1.out.size))
      have HO2 := Lib.hid (HO1.out.below hb2)
      clear hb2 HO1 HB1 HV1
      go_wp2
      go_loopw [4, 28] (fun p i wx => ∃ k q : Nat, k ≤ L ∧ i = .int .i64 k ∧ p = .int .i64 q ∧ q ≤ 256 ∧ q = prodV (l.take k) ∧ OwnR wx w.heap.size (.slice T n cp) us (allB l) ∧ Below w.heap.size w wx) (fun _ i _ => L - (intOf i).toNat)
      case atStart => exact ⟨0, 1, Nat.zero_le _, rfl, rfl, by omega, by simp [prodV], HO2.out, HB2.out⟩
      case round =>
        clear HO2 HB2
        obtain ⟨k, q, hk, rfl, rfl, hq, hqe, hown, hbw⟩ := hrel
        have HQ := Lib.hid hqe
        have HO := Lib.hid hown
        have HB := Lib.hid hbw
        clear hqe hown
        by_cases hlt : k < L
        · have hkl : k < l.length := by rw [← HL.out]; exact hlt
          obtain ⟨b, off, rfl, hb, hc⟩ := H3.out (by omega)
          obtain ⟨g1, ⟨u, g2, g3⟩, g4⟩ := hc k hlt
          obtain ⟨A1, L1, c1, rfl, hL1, g5⟩ := g3.open'
          have q1 := (hbw.cell (p := ⟨b, off + k * 2, none⟩) hb).trans g1
          have q2 := (hbw.cell (p := ⟨b, off + k * 2 + 1, none⟩) hb).trans g2
          have hL14 : L1 ≤ 4 := by rw [hL1]; exact (HLV.out k hkl).2
          have hqn : q * L1 = prodV (l.take (k + 1)) := by rw [prod_snoc hkl, HQ.out, hL1]
          have hq1 : q * L1 ≤ 256 := by
            have h1 := HP.out (k + 1) (by omega)
            rw [← hqn] at h1
            exact Nat.le_trans h1 (pow_le (by omega))
          have HQN := Lib.hid hqn
          have e0 : (0 : Int) ≤ (q : Int) * (L1 : Int) := by exact_mod_cast Nat.zero_le (q * L1)
          have e1 : (q : Int) * (L1 : Int) ≤ 256 := by exact_mod_cast hq1
          clear hc g1 g2 g3 g5 hL1 hqn hbw
          go_wp2
          go_roundw
          case rel => exact ⟨k + 1, q * L1, by omega, by go_num, by rw [Int.natCast_mul], hq1, HQN.out, HO.out.alloc _, HB.out.alloc HB.out.size _⟩
          case measure => simp [intOf]; omega
        · obtain rfl : k = L := by omega
          have hqn : q = n := by rw [HQ.out, HL.out, List.take_length, HNP.out]
          subst hqn
          have e1 : ((q : Int) != (q : Int)) = false := by simp
          go_wp2
          clear e1 hbw
          go_loopw [44] (fun i wx => ∃ m : Nat, m ≤ q ∧ i = .int .i64 m ∧ OwnR wx w.heap.size (.slice T q cp) us (allB l) ∧ Below w.heap.size w wx) (fun i _ => q - (intOf i).toNat)
          case atStart => exact ⟨0, Nat.zero_le _, rfl, HO.out, HB.out⟩
          case round =>
            clear HO HB
            obtain ⟨m, hm, rfl, hown, hbw⟩ := hrel
            have HO := Lib.hid hown
            have HB := Lib.hid hbw
            by_cases hml : m < q
            · have hmp : m < prodV l := by rw [← HNP.out]; exact hml
              obtain ⟨bR, u, rfl, hu, hut⟩ := hown.at hml
              obtain ⟨Au, Lu, cu, rfl⟩ : ∃ A L c, u = .slice A L c := by
                obtain ⟨A, c, e⟩ := hut.slice
                exact ⟨_, _, _, e⟩
              have hset := hut.sets (small_all HSM.out _ (nthG_mem (by rw [← HN.out]; exact hml)))
              rw [HGET.out m hmp] at hset
              obtain ⟨A', L', c', e, hLu, hs1, hs2, hs3⟩ := hset.open'
              injection e with e1 e2 e3
              subst e1; subst e2; subst e3
              have hLk : Lu = k := by rw [hLu, pick_len, HL.out]
              subst hLk
              have HSET := Lib.hid hset
              have HS3 := Lib.hid hs3
              have hbwz := hbw.size
              have hm256 : m ≤ 256 := by omega
              have HH := Lib.hid (H.out.below hbw (Nat.le_refl _))
              have hself := Below.refl wr.heap.size wr
              have HSELF := Lib.hid hself
              unfold maxLen at hs2
              clear hown hbw hut hset hLu hs3 hself hmp
              go_wp2
              clear hu
              go_loopw [9, 52] (fun t i wx => ∃ j kk : Nat, j ≤ Lu ∧ i = .int .i64 j ∧ t = .int .i64 kk ∧ kk ≤ 256 ∧ Hid (kk = m / prodV (l.take j)) ∧ Below wr.heap.size wr wx) (fun _ i _ => Lu - (intOf i).toNat)
              case atStart => exact ⟨0, m, Nat.zero_le _, rfl, rfl, hm256, Lib.hid (by simp [prodV]), HSELF.out⟩
              case round =>
                clear HSELF
                obtain ⟨j, kk, hj, rfl, rfl, hkk, hke, hbx⟩ := hrel
                have HBX := Lib.hid hbx
                by_cases hjl : j < Lu
                · have hjl2 : j < l.length := by rw [← HL.out]; exact hjl
                  obtain ⟨b, off, rfl, hb, hc⟩ := H3.out (by omega)
                  obtain ⟨g1, ⟨u, g2, g3⟩, g4⟩ := hc j hjl
                  obtain ⟨A1, L1, c1, rfl, hL1, g5, g6, g7⟩ := g3.open'
                  have hL10 : 0 < L1 := by rw [hL1]; exact (HLV.out j hjl2).1
                  obtain ⟨b1, o1, rfl, hb1, hc1⟩ := g7 hL10
                  obtain ⟨bs, os, rfl, hbs, hcs⟩ := HS3.out (by omega)
                  obtain ⟨s1, s2, _, _⟩ := hcs j hjl
                  obtain ⟨r, hr⟩ : ∃ r, r = kk % L1 := ⟨_, rfl⟩
                  have hrl : r < L1 := by rw [hr]; exact Nat.mod_lt _ hL10
                  rw [pick_get l m j hjl2, ← hke.out, ← hL1, ← hr] at s1 s2
                  have hwx : Below w.heap.size w wr := HB.out.trans (hbx.mono hbwz)
                  have q1 := (hwx.cell (p := ⟨b, off + j * 2, none⟩) hb).trans g1
                  have q2 := (hwx.cell (p := ⟨b, off + j * 2 + 1, none⟩) hb).trans g2
                  have q3 := cell_alloc_l (.cells #[.string (nthV l j).1, .slice (some ⟨b1, o1, none⟩) L1 c1] 35) ((hwx.cell (p := ⟨b1, o1 + r, none⟩) hb1).trans (hc1 r hrl).1)
                  have q4 := cell_alloc_l (.cells #[.string (nthV l j).1, .slice (some ⟨b1, o1, none⟩) L1 c1] 35) ((hbx.cell (p := ⟨bs, os + j * 2, none⟩) hbs).trans s1)
                  have q5 := cell_alloc_l (.cells #[.string (nthV l j).1, .slice (some ⟨b1, o1, none⟩) L1 c1] 35) ((hbx.cell (p := ⟨bs, os + j * 2 + 1, none⟩) hbs).trans s2)
                  have hrem : (kk : Int).tmod (L1 : Int) = (r : Int) := by rw [hr]; simp [Int.tmod_eq_emod_of_nonneg]
                  have hquo : (kk : Int).tdiv (L1 : Int) = ((kk / L1 : Nat) : Int) := by simp [Int.tdiv_eq_ediv_of_nonneg]
                  have hnz : ((L1 : Int) == 0) = false := by simp; omega
                  have hnext : Hid (kk / L1 = m / prodV (l.take (j + 1))) := Lib.hid (by rw [prod_snoc hjl2, ← Nat.div_div_eq_div_mul, ← hke.out, ← hL1])
                  have hkn : kk / L1 ≤ 256 := Nat.le_trans (Nat.div_le_self _ _) hkk
                  have r0 : (0 : Int) ≤ (r : Int) := by omega
                  have r1 : (r : Int) < (L1 : Int) := by omega
                  have j0 : (0 : Int) ≤ (j : Int) := by omega
                  have j1 : (j : Int) < (Lu : Int) := by omega
                  clear hc g1 g2 g3 g5 g7 hc1 hcs s1 s2 hr hbx hL1 hwx hbs
                  go_wp2
                  go_quiet (fail)
                  have d0 : (0 : Int) ≤ (kk : Int) / (L1 : Int) := by exact_mod_cast Nat.zero_le (kk / L1)
                  have d1 : (kk : Int) / (L1 : Int) ≤ 256 := by exact_mod_cast hkn
                  go_wp2
                  go_roundw
                  case rel => exact ⟨j + 1, kk / L1, by omega, by go_num, by first | rfl | go_num, hkn, hnext, below_draws (HBX.out.alloc HBX.out.size _) _⟩
                  case measure => simp [intOf]; omega
                · obtain rfl : j = Lu := by omega
                  have hbx2 := HB.out.trans (hbx.mono hbwz)
                  have HB2 := Lib.hid hbx2
                  have HO2 := Lib.hid (HO.out.below hbx)
                  have HV2 := Lib.hid (HH.out.below hbx (Nat.le_refl _))
                  have HS2 := Lib.hid (HSET.out.below hbx (Nat.le_refl _))
                  clear hbx hbx2
                  go_wp2_with fail
                  refine (refLegal_is _ _ _ l (pick l m) HV2.out HS2.out true (HPK.out m)).mono ?_
                  rintro e w5 ⟨rfl, hb5⟩
                  have HB5 := Lib.hid (HB2.out.trans (hb5.mono HB2.out.size))
                  have HO5 := Lib.hid (HO2.out.below hb5)
                  clear hb5
                  go_wp2
                  go_roundw
                  case rel => exact ⟨m + 1, by omega, by go_num, HO5.out, HB5.out⟩
                  case measure => simp [intOf]; omega
            · go_wp2_with fail
              refine (fixed_any _).mono ?_
              rintro e w3 ⟨rfl, hb3⟩
              have HB3 := Lib.hid (HB.out.trans (hb3.mono HB.out.size))
              clear hb3 hbw hown
              go_wp2
              go_ret
              exact ⟨rfl, HB3.out⟩

theorem variantAll_w (A : Option Addr) (len cap : Nat) (l : List Var) (w : World) (h : VarsP w A len cap l) :
    Calls Try.prog 5 #[.slice A len cap] w fun e w' => e = .returned (.bool true) ∧ Below w.heap.size w w' := variantAll_any _ l w h

end Go.Proofs.Ytbdceeecngibmaa.Va
