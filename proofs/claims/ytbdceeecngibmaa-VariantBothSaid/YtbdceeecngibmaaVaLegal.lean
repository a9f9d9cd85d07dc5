/- The document's Legal. -/
import Derived.Test.YtbdceeecngibmaaVaRefMay
namespace Go.Proofs.Ytbdceeecngibmaa.Va
open Go.RowKit

def legalP (l : List Var) (s : List Set1) (i : Nat) : Bool := eqS (nthV l i).1 (nthT s i).1 && hasS (nthV l i).2 (nthT s i).2
def legalB (l : List Var) (s : List Set1) : Bool := decide (l.length = s.length) && (List.range l.length).all (legalP l s)

theorem hasS_snoc {l : List ByteArray} {k : Nat} (hk : k < l.length) (x : ByteArray) : hasS (l.take (k + 1)) x = (hasS (l.take k) x || eqS (nthS l k) x) := by
  rw [hasS_comm, hasS_comm, any_snocS hk]

set_option maxRecDepth 100000 in
set_option maxHeartbeats 3200000 in
theorem refLegal_any (w : World) (v u : Value) (l : List Var) (s : List Set1) (h : Vars w v l) (hs : Sets w u s) :
    Calls Try.prog 18 #[v, u] w fun e w' => e = .returned (.bool (legalB l s)) ∧ Below w.heap.size w w' := by
  obtain ⟨A, L, c, rfl, hL, h1, h2, h3⟩ := h.open'
  obtain ⟨As, Ls, cs, rfl, hLs, hs1, hs2, hs3⟩ := hs.open'
  unfold maxLen at h2 hs2
  have HL := Lib.hid hL
  have HLs := Lib.hid hLs
  have H3 := Lib.hid h3
  have HS3 := Lib.hid hs3
  clear h hL h3 hs hLs hs3
  by_cases hne : L = Ls
  · subst hne
    have HV := Lib.hid (show legalB l s = (List.range l.length).all (legalP l s) by
      unfold legalB
      have e : decide (l.length = s.length) = true := by rw [decide_eq_true_iff]; exact HL.out.symm.trans HLs.out
      rw [e]; rfl)
    have e1 : ((L : Int) != (L : Int)) = false := by simp
    go_enter Try.func18, Try.ntmps18
    go_wp2
    clear e1
    go_loopw [15] (fun i wr => ∃ k : Nat, k ≤ L ∧ i = .int .i64 k ∧ Hid ((List.range k).all (legalP l s) = true) ∧ Below w.heap.size w wr) (fun i _ => L - (intOf i).toNat)
    case atStart => exact ⟨0, Nat.zero_le _, rfl, Lib.hid (by simp), Below.refl _ _⟩
    case round =>
      obtain ⟨k, hk, rfl, hall, hbw⟩ := hrel
      by_cases hlt : k < L
      · obtain ⟨b, off, rfl, hb, hc⟩ := H3.out (by omega)
        obtain ⟨bs, os, rfl, hbs, hcs⟩ := HS3.out (by omega)
        obtain ⟨g1, ⟨u, g2, g3⟩, g4⟩ := hc k hlt
        obtain ⟨s1, s2, s3, s4⟩ := hcs k hlt
        obtain ⟨A1, L1, c1, rfl, hL1, g5, g6, g7⟩ := g3.open'
        unfold maxLen at g6
        have G1 := Lib.hid g1
        have G2 := Lib.hid g2
        have S1 := Lib.hid s1
        have S2 := Lib.hid s2
        have G7 := Lib.hid g7
        have HL1 := Lib.hid hL1
        have HBL := Lib.hid hb
        have HBS := Lib.hid hbs
        have HBW := Lib.hid hbw
        have k0 : (0 : Int) ≤ (k : Int) := by omega
        have k1 : (k : Int) < (L : Int) := by omega
        have q2 := (hbw.cell (p := ⟨b, off + k * 2 + 1, none⟩) hb).trans g2
        have hkl : k < l.length := by rw [← HL.out]; exact hlt
        have HF := Lib.hid (fun (hp : legalP l s k = false) => show legalB l s = false from HV.out.trans (range_false hkl hp))
        clear hc hcs g1 g2 g3 s1 s2 g7 hL1 hb hbs hbw hkl
        go_wp2
        clear q2
        go_loopw [6, 24] (fun f i wx => ∃ (j : Nat) (x : Bool), j ≤ L1 ∧ i = .int .i64 j ∧ f = .bool x ∧ Hid (hasS ((nthV l k).2.take j) (nthT s k).2 = x) ∧ Below w.heap.size w wx) (fun _ i _ => L1 - (intOf i).toNat)
        case atStart => exact ⟨0, false, Nat.zero_le _, rfl, rfl, Lib.hid (by simp [hasS]), HBW.out⟩
        case round =>
          clear HBW
          obtain ⟨j, x, hj, rfl, rfl, hx, hbw2⟩ := hrel
          have HB2 := Lib.hid hbw2
          by_cases hjl : j < L1
          · have hjl2 : j < (nthV l k).2.length := by rw [← HL1.out]; exact hjl
            have HSN := Lib.hid (hasS_snoc hjl2 (nthT s k).2)
            clear hjl2
            cases x with
            | true =>
              have hn : Hid (hasS ((nthV l k).2.take (j + 1)) (nthT s k).2 = true) := Lib.hid (by rw [HSN.out, hx.out]; rfl)
              clear hbw2
              go_wp2_with fail
              go_quiet (fail)
              go_wp2
              go_roundw
              case rel => exact ⟨j + 1, true, by omega, by go_num, rfl, hn, below_draws HB2.out _⟩
              case measure => simp [intOf]; omega
            | false =>
              obtain ⟨b1, o1, rfl, hb1, hc1⟩ := G7.out (by omega)
              have j0 : (0 : Int) ≤ (j : Int) := by omega
              have j1 : (j : Int) < (L1 : Int) := by omega
              have q2 := (hbw2.cell (p := ⟨b, off + k * 2 + 1, none⟩) HBL.out).trans G2.out
              have qj := (hbw2.cell (p := ⟨b1, o1 + j, none⟩) hb1).trans (hc1 j hjl).1
              have qs := (hbw2.cell (p := ⟨bs, os + k * 2 + 1, none⟩) HBS.out).trans S2.out
              cases he : eqS (nthS (nthV l k).2 j) (nthT s k).2 with
              | true =>
                have hn : Hid (hasS ((nthV l k).2.take (j + 1)) (nthT s k).2 = true) := Lib.hid (by rw [HSN.out, he]; simp)
                have e2 : ((nthS (nthV l k).2 j).toList == (nthT s k).2.toList) = true := he
                clear hbw2 he hc1 hb1
                go_wp2_with fail
                go_quiet (fail)
                go_wp2
                go_roundw
                case rel => exact ⟨j + 1, true, by omega, by go_num, rfl, hn, below_draws HB2.out _⟩
                case measure => simp [intOf]; omega
              | false =>
                have hn : Hid (hasS ((nthV l k).2.take (j + 1)) (nthT s k).2 = false) := Lib.hid (by rw [HSN.out, hx.out, he]; rfl)
                have e2 : ((nthS (nthV l k).2 j).toList == (nthT s k).2.toList) = false := he
                clear hbw2 he hc1 hb1
                go_wp2_with fail
                go_quiet (fail)
                go_wp2
                go_roundw
                case rel => exact ⟨j + 1, false, by omega, by go_num, rfl, hn, below_draws HB2.out _⟩
                case measure => simp [intOf]; omega
          · obtain rfl : j = L1 := by omega
            have HX := Lib.hid (show hasS (nthV l k).2 (nthT s k).2 = x by
              have := hx.out
              rwa [HL1.out, List.take_length] at this)
            have q1 := (hbw2.cell (p := ⟨b, off + k * 2, none⟩) HBL.out).trans G1.out
            have qs := (hbw2.cell (p := ⟨bs, os + k * 2, none⟩) HBS.out).trans S1.out
            cases he : eqS (nthV l k).1 (nthT s k).1 with
            | false =>
              have Hv := Lib.hid (HF.out (by unfold legalP; rw [he]; rfl))
              have e2 : ((nthV l k).1.toList == (nthT s k).1.toList) = false := he
              have e3 : ((nthV l k).1.toList != (nthT s k).1.toList) = true := by rw [bne, e2]; rfl
              clear hbw2 he
              go_wp2_with fail
              go_quiet (fail)
              go_wp2
              go_ret
              exact ⟨by rw [Hv.out]; rfl, below_draws HB2.out _⟩
            | true =>
              have e2 : ((nthV l k).1.toList == (nthT s k).1.toList) = true := he
              have e3 : ((nthV l k).1.toList != (nthT s k).1.toList) = false := by rw [bne, e2]; rfl
              cases x with
              | false =>
                have Hv := Lib.hid (HF.out (by unfold legalP; rw [he, HX.out]; rfl))
                clear hbw2 he
                go_wp2_with fail
                go_quiet (fail)
                go_wp2
                go_ret
                exact ⟨by rw [Hv.out]; rfl, below_draws HB2.out _⟩
              | true =>
                have hn : Hid ((List.range (k + 1)).all (legalP l s) = true) := Lib.hid (by rw [range_snoc, hall.out]; unfold legalP; rw [he, HX.out]; rfl)
                clear hbw2 he
                go_wp2_with fail
                go_quiet (fail)
                go_wp2
                go_roundw
                case rel => exact ⟨k + 1, by omega, by go_num, hn, below_draws HB2.out _⟩
                case measure => simp [intOf]; omega
      · obtain rfl : k = L := by omega
        have Hv := Lib.hid (show legalB l s = true by
          have := hall.out
          rw [HL.out] at this
          rw [HV.out]; exact this)
        go_wp2
        go_ret
        exact ⟨by rw [Hv.out]; rfl, hbw⟩
  · have e1 : ((L : Int) != (Ls : Int)) = true := by simp; omega
    have Hv := Lib.hid (show legalB l s = false by
      unfold legalB
      have e : decide (l.length = s.length) = false := by rw [decide_eq_false_iff_not, ← HL.out, ← HLs.out]; exact hne
      rw [e]; rfl)
    go_enter Try.func18, Try.ntmps18
    go_wp2
    go_ret
    exact ⟨by rw [Hv.out]; rfl, Below.refl _ _⟩

end Go.Proofs.Ytbdceeecngibmaa.Va
