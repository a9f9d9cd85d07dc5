/- The walk of May. -/
import Derived.Test.YtggejmojbebhfaaVaMay
namespace Go.Proofs.Ytggejmojbebhfaa.Va
open Go.RowKit

theorem mayClosure_any (w : World) (s x : ByteArray) (u : Value) (P : Nat) (hc : w.cell? ⟨P, 0, none⟩ = some (.string x)) :
    Calls Try.prog 91 #[.agg #[.string s, u], .pointer (some ⟨P, 0, none⟩)] w fun e w' => e = .returned (.bool (eqS s x)) ∧ Below w.heap.size w w' := by
  have hb0 : Below w.heap.size w (w.alloc (.cells #[.string s, u] 98)) := (Below.refl _ _).alloc (Nat.le_refl _) _
  have hlt := World.block_lt_of_cell? w _ hc
  have hc1 := (hb0.cell (p := ⟨P, 0, none⟩) hlt).trans hc
  have hP : ¬ P = w.heap.size := by simp at hlt; omega
  have HB := Lib.hid hb0
  clear hb0 hc
  go_enter Try.func91, Try.ntmps91
  go_wp2
  refine bodyPost_ret (v := .bool (eqS s x)) (by simp [results, Try.results91, go_sem, eqS]) rfl ⟨rfl, HB.out⟩

set_option maxRecDepth 100000 in
set_option maxHeartbeats 800000 in
theorem indexF_any (w : World) (v : Value) (l : List Var) (x : ByteArray) (P : Nat) (h : Vars w v l) (hP : w.cell? ⟨P, 0, none⟩ = some (.string x)) :
    Calls Try.prog 108 #[v, .func (.func 91) #[] #[.pointer (some ⟨P, 0, none⟩)]] w fun e w' => (∃ n : Int, e = .returned (.int .i64 n) ∧ decide (0 ≤ n) = hasN l x) ∧ Below w.heap.size w w' := by
  obtain ⟨A, L, c, rfl, hL, h1, h2, h3⟩ := h.open'
  unfold maxLen at h2
  have HL := Lib.hid hL
  have H3 := Lib.hid h3
  have HP := Lib.hid hP
  have hlp := World.block_lt_of_cell? w _ hP
  clear h hL h3 hP
  go_enter Try.func108, Try.ntmps108
  go_wp2
  go_loopw [8] (fun i wr => ∃ k : Nat, k ≤ L ∧ i = .int .i64 k ∧ Hid ((l.take k).any (fun v => eqS v.1 x) = false) ∧ Below w.heap.size w wr) (fun i _ => L - (intOf i).toNat)
  case atStart => exact ⟨0, Nat.zero_le _, rfl, Lib.hid (by simp), Below.refl _ _⟩
  case round =>
    obtain ⟨k, hk, rfl, hall, hbw⟩ := hrel
    by_cases hlt : k < L
    · obtain ⟨b, off, rfl, hb, hc⟩ := H3.out (by omega)
      obtain ⟨g1, ⟨u, g2, g3⟩, g4⟩ := hc k hlt
      have q1 := (hbw.cell (p := ⟨b, off + k * 2, none⟩) hb).trans g1
      have q2 := (hbw.cell (p := ⟨b, off + k * 2 + 1, none⟩) hb).trans g2
      have qP := Lib.hid ((hbw.cell (p := ⟨P, 0, none⟩) hlp).trans HP.out)
      have hkl : k < l.length := by rw [← HL.out]; exact hlt
      have hs := any_snocV hkl (fun v => eqS v.1 x)
      have HS := Lib.hid hs
      have HBW := Lib.hid hbw
      clear hc g1 g2 g3 hs hbw
      go_wp2_with fail
      refine (mayClosure_any _ _ x u P qP.out).mono ?_
      rintro e w1 ⟨rfl, hb1⟩
      have HB1 := Lib.hid (HBW.out.trans (hb1.mono HBW.out.size))
      clear hb1 q1 q2
      cases he : eqS (nthV l k).1 x with
      | true =>
        have Hv := Lib.hid (show hasN l x = true from any_atV (p := fun v => eqS v.1 x) hkl he)
        clear he hkl
        go_wp2
        go_ret
        exact ⟨⟨k, rfl, by rw [Hv.out]; simp⟩, HB1.out⟩
      | false =>
        have hn : Hid ((l.take (k + 1)).any (fun v => eqS v.1 x) = false) := Lib.hid (by rw [HS.out, hall.out, he]; rfl)
        clear he hkl
        go_wp2
        go_roundw
        case rel => exact ⟨k + 1, by omega, by go_num, hn, HB1.out⟩
        case measure => simp [intOf]; omega
    · obtain rfl : k = L := by omega
      have Hv := Lib.hid (show hasN l x = false by
        have := hall.out
        rw [HL.out, List.take_length] at this
        exact this)
      go_wp2
      go_ret
      exact ⟨⟨-1, rfl, by rw [Hv.out]; rfl⟩, hbw⟩

theorem containsF_any (w : World) (v : Value) (l : List Var) (x : ByteArray) (P : Nat) (h : Vars w v l) (hP : w.cell? ⟨P, 0, none⟩ = some (.string x)) (b : Bool) (hb : hasN l x = b) :
    Calls Try.prog 90 #[v, .func (.func 91) #[] #[.pointer (some ⟨P, 0, none⟩)]] w fun e w' => e = .returned (.bool b) ∧ Below w.heap.size w w' := by
  have H := Lib.hid h
  have HP := Lib.hid hP
  have HB := Lib.hid hb
  clear h hP hb
  go_enter Try.func90, Try.ntmps90
  go_wp2_with fail
  refine (indexF_any w v l x P H.out HP.out).mono ?_
  rintro e w' ⟨⟨n, rfl, hn⟩, hbw⟩
  have HN := Lib.hid hn
  clear hn
  go_wp2
  go_ret
  exact ⟨by rw [← HB.out, ← HN.out]; rfl, hbw⟩

def mayP (l : List Var) (i : Nat) : Bool := mayOneB (nthV l i) && !hasN (l.take i) (nthV l i).1

set_option maxRecDepth 100000 in
set_option maxHeartbeats 1600000 in
theorem may_any (w : World) (v : Value) (l : List Var) (h : Vars w v l) :
    Calls Try.prog 66 #[v] w fun e w' => e = .returned (.bool (mayB l)) ∧ Below w.heap.size w w' := by
  have h' := h
  obtain ⟨A, L, c, rfl, hL, h1, h2, h3⟩ := h'.open'
  unfold maxLen at h2
  have HA := Lib.hid h
  have HL := Lib.hid hL
  have H3 := Lib.hid h3
  clear h h' hL h3
  by_cases h4 : 4 < L
  · have Hv := Lib.hid (show mayB l = false by
      unfold mayB
      have e : decide (l.length ≤ 4) = false := by rw [decide_eq_false_iff_not]; have := HL.out; omega
      rw [e]; rfl)
    have h4' : (4 : Int) < (L : Int) := by omega
    go_enter Try.func66, Try.ntmps66
    go_wp2
    go_ret
    exact ⟨by rw [Hv.out]; rfl, Below.refl _ _⟩
  · have h4' : ¬ (4 : Int) < (L : Int) := by omega
    have HV := Lib.hid (show mayB l = (List.range l.length).all (mayP l) by
      unfold mayB
      have e : decide (l.length ≤ 4) = true := by rw [decide_eq_true_iff]; have := HL.out; omega
      rw [e]; rfl)
    go_enter Try.func66, Try.ntmps66
    go_wp2
    clear h4 h4'
    go_loopw [10] (fun i wr => ∃ k : Nat, k ≤ L ∧ i = .int .i64 k ∧ Hid ((List.range k).all (mayP l) = true) ∧ Below w.heap.size w wr) (fun i _ => L - (intOf i).toNat)
    case atStart => exact ⟨0, Nat.zero_le _, rfl, Lib.hid (by simp), Below.refl _ _⟩
    case round =>
      obtain ⟨k, hk, rfl, hall, hbw⟩ := hrel
      by_cases hlt : k < L
      · obtain ⟨b, off, rfl, hb, hc⟩ := H3.out (by omega)
        obtain ⟨g1, ⟨u, g2, g3⟩, g4⟩ := hc k hlt
        have g3' := g3
        obtain ⟨A1, L1, c1, rfl, g5⟩ := g3'.open'
        clear g3' g5
        have hbw1 : Below w.heap.size w (wr.alloc (.cells #[.string (nthV l k).1, .slice A1 L1 c1] 98)) := hbw.alloc hbw.size _
        have q1 := (hbw.cell (p := ⟨b, off + k * 2, none⟩) hb).trans g1
        have q2 := (hbw.cell (p := ⟨b, off + k * 2 + 1, none⟩) hb).trans g2
        have hkl : k < l.length := by rw [← HL.out]; exact hlt
        have HT := Lib.hid (g3.below hbw1 (Nat.le_refl _))
        have HTK := Lib.hid ((HA.out.take (k := k) (by omega)).below hbw1 (Nat.le_refl _))
        have HBW := Lib.hid hbw1
        have hkc : ¬ (c : Int) < (k : Int) := by omega
        have hnew := heap_alloc_new wr (.cells #[.string (nthV l k).1, .slice A1 L1 c1] 98)
        have HNEW := Lib.hid hnew
        have hpr : ∀ y z, mayOneB (nthV l k) = y → hasN (l.take k) (nthV l k).1 = z → mayP l k = (y && !z) := fun y z e1 e2 => by unfold mayP; rw [e1, e2]
        have HPR := Lib.hid hpr
        clear hc g1 g2 g3 hbw hbw1 hnew hpr
        cases h5 : mayOneB (nthV l k) with
        | false =>
          have Hv := Lib.hid (show mayB l = false by rw [HV.out]; exact range_false hkl (by rw [HPR.out _ _ h5 rfl]; rfl))
          have H5 := Lib.hid h5
          clear h5 hkl
          go_wp2_with (go_at_call 89; refine (mayOne_is _ _ (.slice A1 L1 c1) _ HT.out false H5.out).mono ?_; rintro e w1 ⟨rfl, hb1⟩; have HB1 := Lib.hid (HBW.out.trans (hb1.mono HBW.out.size)); clear hb1)
          go_ret
          exact ⟨by rw [Hv.out]; rfl, HB1.out⟩
        | true =>
          have H5 := Lib.hid h5
          clear h5
          obtain ⟨y, h6⟩ : ∃ y, hasN (l.take k) (nthV l k).1 = y := ⟨_, rfl⟩
          have H6 := Lib.hid h6
          go_wp2_with (first | (go_at_call 89; refine (mayOne_is _ _ (.slice A1 L1 c1) _ HT.out true H5.out).mono ?_; rintro e w1 ⟨rfl, hb1⟩; have hx1 := heap_below HNEW.out hb1; have x0 := cells_get hx1 0 (v := .string (nthV l k).1) rfl; have HTK1 := Lib.hid (HTK.out.below hb1 (Nat.le_refl _)); have HB1 := Lib.hid (HBW.out.trans (hb1.mono HBW.out.size)); have X0 := Lib.hid x0; clear hb1 hx1 x0 q1 q2) | (go_at_call 90; refine (containsF_any _ _ _ (nthV l k).1 wr.heap.size HTK1.out X0.out y H6.out).mono ?_; rintro e w2 ⟨rfl, hb2⟩; have HB2 := Lib.hid (HB1.out.trans (hb2.mono HB1.out.size)); clear hb2))
          · have hy : y = true := by assumption
            subst hy
            have Hv := Lib.hid (show mayB l = false by rw [HV.out]; exact range_false hkl (by rw [HPR.out _ _ H5.out h6]; rfl))
            go_ret
            exact ⟨by rw [Hv.out]; rfl, HB2.out⟩
          · have hy : y = false := by assumption
            subst hy
            have hn : Hid ((List.range (k + 1)).all (mayP l) = true) := Lib.hid (by rw [range_snoc, hall.out, HPR.out _ _ H5.out h6]; rfl)
            go_roundw
            case rel => exact ⟨k + 1, by omega, by go_num, hn, HB2.out⟩
            case measure => simp [intOf]; omega
      · obtain rfl : k = L := by omega
        have Hv := Lib.hid (show mayB l = true by
          have := hall.out
          rw [HL.out] at this
          rw [HV.out]; exact this)
        go_wp2
        go_ret
        exact ⟨by rw [Hv.out]; rfl, hbw⟩

theorem may_is (w : World) (v : Value) (l : List Var) (h : Vars w v l) (b : Bool) (hb : mayB l = b) :
    Calls Try.prog 66 #[v] w fun e w' => e = .returned (.bool b) ∧ Below w.heap.size w w' := by subst hb; exact may_any w v l h

end Go.Proofs.Ytggejmojbebhfaa.Va
