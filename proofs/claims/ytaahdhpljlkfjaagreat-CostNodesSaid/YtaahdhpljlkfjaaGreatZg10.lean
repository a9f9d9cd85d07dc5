/- The document's May. -/
import Derived.Test.YtaahdhpljlkfjaaGreatZg06
namespace Go.Proofs.YtaahdhpljlkfjaaGreat.Va
open Go.RowKit

theorem hasS_comm (l : List ByteArray) (x : ByteArray) : hasS l x = l.any (fun y => eqS y x) := by
  unfold hasS
  congr 1
  funext y
  exact eqS_comm x y

theorem refValue_is2 (s : ByteArray) (b : Bool) (h : valB s.data.toList = b) (w : World) (hs : s.size ≤ maxLen) :
    Calls Tryz.prog 90 #[.string s] w fun e w' => e = .returned (.bool b) ∧ w = w' := by subst h; exact refValue_any s w hs

def valP (l : List ByteArray) (i : Nat) : Bool := valB (nthS l i).data.toList && !hasS (l.take i) (nthS l i)
def mayP' (l : List Var) (i : Nat) : Bool := mayOneB (nthV l i) && !hasN (l.take i) (nthV l i).1
theorem mayB_eq {l : List Var} (h : l.length ≤ 4) : mayB l = (List.range l.length).all (mayP' l) := by
  unfold mayB
  have e : decide (l.length ≤ 4) = true := by rw [decide_eq_true_iff]; exact h
  rw [e]; rfl
theorem nthV_take {l : List Var} {k m : Nat} (h : m < k) : nthV (l.take k) m = nthV l m := by unfold nthV; rw [List.getElem?_take, if_pos h]
theorem nthS_take {l : List ByteArray} {k m : Nat} (h : m < k) : nthS (l.take k) m = nthS l m := by unfold nthS; rw [List.getElem?_take, if_pos h]
theorem take_any_false {l : List ByteArray} {k m : Nat} {x : ByteArray} (h : ((l.take k).take m).any (fun y => eqS y x) = false) (hm : k ≤ m) : hasS (l.take k) x = false := by
  rw [hasS_comm]
  rwa [List.take_of_length_le (by rw [List.length_take]; omega)] at h

set_option maxRecDepth 100000 in
set_option maxHeartbeats 3200000 in
theorem refMay_any (w : World) (v : Value) (l : List Var) (h : Vars w v l) :
    Calls Tryz.prog 62 #[v] w fun e w' => e = .returned (.bool (mayB l)) ∧ Below w.heap.size w w' := by
  obtain ⟨A, L, c, rfl, hL, h1, h2, h3⟩ := h.open'
  unfold maxLen at h2
  have HL := Lib.hid hL
  have H3 := Lib.hid h3
  clear h hL h3
  by_cases h4 : 4 < L
  · have Hv := Lib.hid (show mayB l = false by
      unfold mayB
      have e : decide (l.length ≤ 4) = false := by rw [decide_eq_false_iff_not]; have := HL.out; omega
      rw [e]; rfl)
    have h4' : (4 : Int) < (L : Int) := by omega
    go_enter Tryz.func62, Tryz.ntmps62
    go_wp2
    go_ret
    exact ⟨by rw [Hv.out]; rfl, Below.refl _ _⟩
  · have h4' : ¬ (4 : Int) < (L : Int) := by omega
    have HV := Lib.hid (mayB_eq (l := l) (by have := HL.out; omega))
    have HF := Lib.hid (fun k (hk : k < L) (hp : mayP' l k = false) => show mayB l = false from HV.out.trans (range_false (by rw [← HL.out]; exact hk) hp))
    go_enter Tryz.func62, Tryz.ntmps62
    go_wp2
    clear h4 h4'
    go_loopw [12] (fun i wr => ∃ k : Nat, k ≤ L ∧ i = .int .i64 k ∧ Hid ((List.range k).all (mayP' l) = true) ∧ Below w.heap.size w wr) (fun i _ => L - (intOf i).toNat)
    case atStart => exact ⟨0, Nat.zero_le _, rfl, Lib.hid (by simp), Below.refl _ _⟩
    case round =>
      obtain ⟨k, hk, rfl, hall, hbw⟩ := hrel
      by_cases hlt : k < L
      · obtain ⟨b, off, rfl, hb, hc⟩ := H3.out (by omega)
        have HC := Lib.hid hc
        obtain ⟨g1, ⟨u, g2, g3⟩, g4⟩ := hc k hlt
        obtain ⟨A1, L1, c1, rfl, hL1, g5, g6, g7⟩ := g3.open'
        have q1 := (hbw.cell (p := ⟨b, off + k * 2, none⟩) hb).trans g1
        have q2 := (hbw.cell (p := ⟨b, off + k * 2 + 1, none⟩) hb).trans g2
        have HL1 := Lib.hid hL1
        have G7 := Lib.hid g7
        have HBW := Lib.hid hbw
        have G1 := Lib.hid g1
        have G2 := Lib.hid g2
        have HBL := Lib.hid hb
        have hF := HF.out k hlt
        have hmp : ∀ x y, mayOneB (nthV l k) = x → hasN (l.take k) (nthV l k).1 = y → mayP' l k = (x && !y) := fun x y e1 e2 => by unfold mayP'; rw [e1, e2]
        have HMP := Lib.hid hmp
        have hkl : k < l.length := by rw [← HL.out]; exact hlt
        unfold maxLen at g6
        clear hc g1 g2 g3 hL1 g7 hbw hmp
        cases hn : nameB (nthV l k).1.data.toList with
        | false =>
          have Hv := Lib.hid (hF (by rw [HMP.out false _ (by unfold mayOneB; rw [hn]; rfl) rfl]; rfl))
          have HN := Lib.hid hn
          clear hn hF
          go_wp2_with (go_at_call 89; refine (refName_is _ false HN.out _).mono ?_; rintro e w' ⟨rfl, rfl⟩)
          go_ret
          exact ⟨by rw [Hv.out]; rfl, HBW.out⟩
        | true =>
          have HN := Lib.hid hn
          clear hn
          by_cases n0 : L1 = 0
          · subst n0
            have Hv := Lib.hid (hF (by rw [HMP.out false _ (by unfold mayOneB; have e : decide ((nthV l k).2.length = 0) = true := by rw [decide_eq_true_iff]; exact HL1.out.symm
                                                               rw [e]; simp) rfl]; rfl))
            clear hF
            go_wp2_with (go_at_call 89; refine (refName_is _ true HN.out _).mono ?_; rintro e w' ⟨rfl, rfl⟩)
            go_ret
            exact ⟨by rw [Hv.out]; rfl, HBW.out⟩
          · have e0 : ((L1 : Int) == 0) = false := by simpa using n0
            by_cases n4 : 4 < L1
            · have n4' : (4 : Int) < (L1 : Int) := by omega
              have Hv := Lib.hid (hF (by rw [HMP.out false _ (by unfold mayOneB; have e : decide ((nthV l k).2.length ≤ 4) = false := by (rw [decide_eq_false_iff_not]; have := HL1.out; omega)
                                                                 rw [e]; simp) rfl]; rfl))
              clear hF n0
              go_wp2_with (go_at_call 89; refine (refName_is _ true HN.out _).mono ?_; rintro e w' ⟨rfl, rfl⟩)
              go_ret
              exact ⟨by rw [Hv.out]; rfl, HBW.out⟩
            · have n4' : ¬ (4 : Int) < (L1 : Int) := by omega
              have HM1 := Lib.hid (show mayOneB (nthV l k) = (List.range (nthV l k).2.length).all (valP (nthV l k).2) by
                unfold mayOneB
                have e1 : decide ((nthV l k).2.length ≤ 4) = true := by (rw [decide_eq_true_iff]; have := HL1.out; omega)
                have e2 : decide ((nthV l k).2.length = 0) = false := by rw [decide_eq_false_iff_not]; have := HL1.out; omega
                rw [HN.out, e1, e2]; rfl)
              have HFF := Lib.hid hF
              clear hF n0
              go_wp2_with (go_at_call 89; refine (refName_is _ true HN.out _).mono ?_; rintro e w' ⟨rfl, rfl⟩)
              clear e0 n4 n4'
              -- the names ahead
              go_loopw [4] (fun i wx => ∃ m : Nat, m ≤ k ∧ i = .int .i64 m ∧ Hid (((l.take k).take m).any (fun v => eqS v.1 (nthV l k).1) = false) ∧ Below w.heap.size w wx) (fun i _ => k - (intOf i).toNat)
              case atStart => exact ⟨0, Nat.zero_le _, rfl, Lib.hid (by simp), HBW.out⟩
              case round =>
                clear HBW q1 q2
                obtain ⟨m, hm, rfl, hany, hbw2⟩ := hrel
                have qk := (hbw2.cell (p := ⟨b, off + k * 2, none⟩) HBL.out).trans G1.out
                have HB2 := Lib.hid hbw2
                have k0 : (0 : Int) ≤ (k : Int) := by omega
                have k1 : (k : Int) < (L : Int) := by omega
                by_cases hmk : m < k
                · have m0 : (0 : Int) ≤ (m : Int) := by omega
                  have m1 : (m : Int) < (L : Int) := by omega
                  have qm := (hbw2.cell (p := ⟨b, off + m * 2, none⟩) HBL.out).trans (HC.out m (by omega)).1
                  have hml : m < (l.take k).length := by rw [List.length_take]; omega
                  cases he : eqS (nthV l m).1 (nthV l k).1 with
                  | true =>
                    have hN : hasN (l.take k) (nthV l k).1 = true := any_atV (p := fun v => eqS v.1 (nthV l k).1) hml (by rw [nthV_take hmk]; exact he)
                    have Hv := Lib.hid (HFF.out (by rw [HMP.out _ true rfl hN]; simp))
                    have e2 : ((nthV l m).1.toList == (nthV l k).1.toList) = true := he
                    clear he hN hml hbw2
                    go_wp2_with fail
                    go_quiet (fail)
                    go_wp2
                    go_ret
                    exact ⟨by rw [Hv.out]; rfl, below_draws HB2.out _⟩
                  | false =>
                    have hn : Hid (((l.take k).take (m + 1)).any (fun v => eqS v.1 (nthV l k).1) = false) := Lib.hid (by rw [any_snocV hml, hany.out, nthV_take hmk, he]; rfl)
                    have e2 : ((nthV l m).1.toList == (nthV l k).1.toList) = false := he
                    clear he hml hbw2
                    go_wp2_with fail
                    go_quiet (fail)
                    go_wp2
                    go_roundw
                    case rel => exact ⟨m + 1, by omega, by go_num, hn, below_draws HB2.out _⟩
                    case measure => simp [intOf]; omega
                · obtain rfl : m = k := by omega
                  have hN : hasN (l.take m) (nthV l m).1 = false := by
                    have := hany.out
                    rwa [List.take_of_length_le (by rw [List.length_take]; omega)] at this
                  have HN2 := Lib.hid hN
                  have qk2 := (hbw2.cell (p := ⟨b, off + m * 2 + 1, none⟩) HBL.out).trans G2.out
                  clear hN hbw2 hmk
                  go_wp2
                  clear qk qk2
                  go_loopw [62] (fun i wx => ∃ j : Nat, j ≤ L1 ∧ i = .int .i64 j ∧ Hid ((List.range j).all (valP (nthV l m).2) = true) ∧ Below w.heap.size w wx) (fun i _ => L1 - (intOf i).toNat)
                  case atStart => exact ⟨0, Nat.zero_le _, rfl, Lib.hid (by simp), HB2.out⟩
                  case round =>
                    clear HB2
                    obtain ⟨j, hj, rfl, hvals, hbw3⟩ := hrel
                    have HB3 := Lib.hid hbw3
                    have qk2 := (hbw3.cell (p := ⟨b, off + m * 2 + 1, none⟩) HBL.out).trans G2.out
                    by_cases hjl : j < L1
                    · obtain ⟨b1, o1, rfl, hb1, hc1⟩ := G7.out (by omega)
                      have HC1 := Lib.hid hc1
                      have HBL1 := Lib.hid hb1
                      have qj := (hbw3.cell (p := ⟨b1, o1 + j, none⟩) hb1).trans (hc1 j hjl).1
                      have hsz := (hc1 j hjl).2
                      have hjl2 : j < (nthV l m).2.length := by rw [← HL1.out]; exact hjl
                      have j0 : (0 : Int) ≤ (j : Int) := by omega
                      have j1 : (j : Int) < (L1 : Int) := by omega
                      have HFV := Lib.hid (fun (hp : valP (nthV l m).2 j = false) => HFF.out (by rw [HMP.out false _ (HM1.out.trans (range_false hjl2 hp)) rfl]; rfl))
                      clear hbw3 hc1 hjl2
                      cases hv : valB (nthS (nthV l m).2 j).data.toList with
                      | false =>
                        have Hv := Lib.hid (HFV.out (by unfold valP; rw [hv]; rfl))
                        have HV1 := Lib.hid hv
                        clear hv
                        go_wp2_with (go_at_call 90; refine (refValue_is2 _ false HV1.out _ hsz).mono ?_; rintro e w' ⟨rfl, rfl⟩)
                        go_ret
                        exact ⟨by rw [Hv.out]; rfl, HB3.out⟩
                      | true =>
                        have HV1 := Lib.hid hv
                        clear hv
                        go_wp2_with (go_at_call 90; refine (refValue_is2 _ true HV1.out _ hsz).mono ?_; rintro e w' ⟨rfl, rfl⟩)
                        clear qk2 qj
                        go_loopw [6] (fun i wx => ∃ n : Nat, n ≤ j ∧ i = .int .i64 n ∧ Hid ((((nthV l m).2.take j).take n).any (fun y => eqS y (nthS (nthV l m).2 j)) = false) ∧ Below w.heap.size w wx) (fun i _ => j - (intOf i).toNat)
                        case atStart => exact ⟨0, Nat.zero_le _, rfl, Lib.hid (by simp), HB3.out⟩
                        case round =>
                          clear HB3
                          obtain ⟨n, hn, rfl, hany2, hbw4⟩ := hrel
                          have HB4 := Lib.hid hbw4
                          by_cases hnj : n < j
                          · have n0 : (0 : Int) ≤ (n : Int) := by omega
                            have n1 : (n : Int) < (L1 : Int) := by omega
                            have qk2 := (hbw4.cell (p := ⟨b, off + m * 2 + 1, none⟩) HBL.out).trans G2.out
                            have qj := (hbw4.cell (p := ⟨b1, o1 + j, none⟩) HBL1.out).trans (HC1.out j hjl).1
                            have qn := (hbw4.cell (p := ⟨b1, o1 + n, none⟩) HBL1.out).trans (HC1.out n (by omega)).1
                            have hnl : n < ((nthV l m).2.take j).length := by rw [List.length_take, ← HL1.out]; omega
                            cases he : eqS (nthS (nthV l m).2 n) (nthS (nthV l m).2 j) with
                            | true =>
                              have hN : hasS ((nthV l m).2.take j) (nthS (nthV l m).2 j) = true := by
                                rw [hasS_comm]
                                exact any_atS (p := fun y => eqS y (nthS (nthV l m).2 j)) hnl (by rw [nthS_take hnj]; exact he)
                              have Hv := Lib.hid (HFV.out (by unfold valP; rw [HV1.out, hN]; rfl))
                              have e2 : ((nthS (nthV l m).2 n).toList == (nthS (nthV l m).2 j).toList) = true := he
                              clear he hN hnl hbw4
                              go_wp2_with fail
                              go_quiet (fail)
                              go_wp2
                              go_ret
                              exact ⟨by rw [Hv.out]; rfl, below_draws HB4.out _⟩
                            | false =>
                              have hnn : Hid ((((nthV l m).2.take j).take (n + 1)).any (fun y => eqS y (nthS (nthV l m).2 j)) = false) := Lib.hid (by rw [any_snocS hnl, hany2.out, nthS_take hnj, he]; rfl)
                              have e2 : ((nthS (nthV l m).2 n).toList == (nthS (nthV l m).2 j).toList) = false := he
                              clear he hnl hbw4
                              go_wp2_with fail
                              go_quiet (fail)
                              go_wp2
                              go_roundw
                              case rel => exact ⟨n + 1, by omega, by go_num, hnn, below_draws HB4.out _⟩
                              case measure => simp [intOf]; omega
                          · obtain rfl : n = j := by omega
                            have hvv : Hid ((List.range (n + 1)).all (valP (nthV l m).2) = true) := Lib.hid (by
                              rw [range_snoc, hvals.out]
                              unfold valP
                              rw [HV1.out, take_any_false hany2.out (Nat.le_refl _)]; rfl)
                            go_wp2
                            go_roundw
                            case rel => exact ⟨n + 1, by omega, by go_num, hvv, HB4.out⟩
                            case measure => simp [intOf]; omega
                    · obtain rfl : j = L1 := by omega
                      have hn : Hid ((List.range (m + 1)).all (mayP' l) = true) := Lib.hid (by
                        have hv := hvals.out
                        rw [HL1.out] at hv
                        rw [range_snoc, hall.out, HMP.out true false (HM1.out.trans hv) HN2.out]; rfl)
                      clear hbw3 qk2
                      go_wp2
                      go_roundw
                      case rel => exact ⟨m + 1, by omega, by go_num, hn, HB3.out⟩
                      case measure => simp [intOf]; omega
      · obtain rfl : k = L := by omega
        have Hv := Lib.hid (show mayB l = true by
          have := hall.out
          rw [HL.out] at this
          rw [HV.out]; exact this)
        go_wp2
        go_ret
        exact ⟨by rw [Hv.out]; rfl, hbw⟩

end Go.Proofs.YtaahdhpljlkfjaaGreat.Va
