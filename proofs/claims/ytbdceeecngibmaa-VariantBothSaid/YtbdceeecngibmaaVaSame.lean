/- The document's Same. -/
import Derived.Test.YtbdceeecngibmaaVaRefMeets
namespace Go.Proofs.Ytbdceeecngibmaa.Va
open Go.RowKit

def sameT (a b : List Set1) : Bool := decide (a.length = b.length) && (List.range a.length).all fun i => eqT (nthT a i) (nthT b i)
theorem same_no {a b : List Set1} {k : Nat} (hk : k < a.length) (h : eqT (nthT a k) (nthT b k) = false) : sameT a b = false := by
  have : ((List.range a.length).all fun i => eqT (nthT a i) (nthT b i)) = false := by
    rw [List.all_eq_false]
    exact ⟨k, List.mem_range.2 hk, by simp [h]⟩
  unfold sameT
  rw [this, Bool.and_false]
theorem same_yes {a b : List Set1} (hl : a.length = b.length) (h : ∀ j, j < a.length → eqT (nthT a j) (nthT b j) = true) : sameT a b = true := by
  have : ((List.range a.length).all fun i => eqT (nthT a i) (nthT b i)) = true := List.all_eq_true.2 fun j hj => h j (List.mem_range.1 hj)
  unfold sameT
  rw [this]
  simp [hl]

set_option maxRecDepth 100000 in
set_option maxHeartbeats 1600000 in
theorem refSame_any (w : World) (v u : Value) (a b : List Set1) (h : Sets w v a) (hw : Sets w u b) :
    Calls Try.prog 28 #[v, u] w fun e w' => e = .returned (.bool (sameT a b)) ∧ Below w.heap.size w w' := by
  obtain ⟨A, L, c, rfl, hL, h1, h2, h3⟩ := h.open'
  obtain ⟨A', L', c', rfl, hL', h1', h2', h3'⟩ := hw.open'
  unfold maxLen at h2 h2'
  have HL := Lib.hid hL
  have HL' := Lib.hid hL'
  have H3 := Lib.hid h3
  have H3' := Lib.hid h3'
  by_cases hll : L = L'
  · subst hll
    clear h hw hL hL' h3 h3'
    have e1 : ((L : Int) != (L : Int)) = false := by simp
    go_enter Try.func28, Try.ntmps28
    go_wp2
    clear e1
    go_loopw [13] (fun i wr => ∃ k : Nat, k ≤ L ∧ i = .int .i64 k ∧ (∀ j, j < k → eqT (nthT a j) (nthT b j) = true) ∧ Below w.heap.size w wr) (fun i _ => L - (intOf i).toNat)
    case atStart => exact ⟨0, Nat.zero_le _, rfl, fun j hj => absurd hj (by omega), Below.refl _ _⟩
    case round =>
      obtain ⟨k, hk, rfl, hall, hbw⟩ := hrel
      have HBW := Lib.hid hbw
      have HALL := Lib.hid hall
      clear hall
      by_cases hlt : k < L
      · obtain ⟨g, off, rfl, hb, hc⟩ := H3.out (by omega)
        obtain ⟨g', off', rfl, hb', hc'⟩ := H3'.out (by omega)
        have c0 := (hbw.cell (p := ⟨g, off + k * 2, none⟩) hb).trans (hc k hlt).1
        have c1 := (hbw.cell (p := ⟨g, off + k * 2 + 1, none⟩) hb).trans (hc k hlt).2.1
        have d0 := (hbw.cell (p := ⟨g', off' + k * 2, none⟩) hb').trans (hc' k hlt).1
        have d1 := (hbw.cell (p := ⟨g', off' + k * 2 + 1, none⟩) hb').trans (hc' k hlt).2.1
        have HKL := Lib.hid (show k < a.length by rw [← HL.out]; exact hlt)
        have k0 : (0 : Int) ≤ (k : Int) := by omega
        have k1 : (k : Int) < (L : Int) := by omega
        clear hc hc' hbw
        cases x1 : eqS (nthT a k).1 (nthT b k).1 with
        | false =>
          have HV := Lib.hid (show sameT a b = false from same_no HKL.out (by unfold eqT; rw [x1]; rfl))
          have e2 : ((nthT a k).1.toList == (nthT b k).1.toList) = false := x1
          clear x1
          go_wp2_with fail
          go_quiet (fail)
          go_wp2
          go_ret
          exact ⟨by rw [HV.out]; rfl, below_draws HBW.out _⟩
        | true =>
          have e2 : ((nthT a k).1.toList == (nthT b k).1.toList) = true := x1
          cases x2 : eqS (nthT a k).2 (nthT b k).2 with
          | false =>
            have HV := Lib.hid (show sameT a b = false from same_no HKL.out (by unfold eqT; rw [x1, x2]; rfl))
            have e3 : ((nthT a k).2.toList == (nthT b k).2.toList) = false := x2
            clear x1 x2
            go_wp2_with fail
            go_quiet (fail)
            go_wp2
            go_ret
            exact ⟨by rw [HV.out]; rfl, below_draws HBW.out _⟩
          | true =>
            have HN := Lib.hid (show eqT (nthT a k) (nthT b k) = true by unfold eqT; rw [x1, x2]; rfl)
            have e3 : ((nthT a k).2.toList == (nthT b k).2.toList) = true := x2
            clear x1 x2
            go_wp2_with fail
            go_quiet (fail)
            go_wp2
            go_roundw
            case rel =>
              refine ⟨k + 1, by omega, by go_num, fun j hj => ?_, below_draws HBW.out _⟩
              by_cases e : j = k
              · subst e; exact HN.out
              · exact HALL.out j (by omega)
            case measure => simp [intOf]; omega
      · obtain rfl : k = L := by omega
        have HV := Lib.hid (show sameT a b = true from same_yes (by rw [← HL.out, ← HL'.out]) (fun j hj => HALL.out j (by rw [HL.out]; exact hj)))
        clear hbw
        go_wp2
        go_ret
        exact ⟨by rw [HV.out]; rfl, HBW.out⟩
  · have HV := Lib.hid (show sameT a b = false by unfold sameT; rw [← HL.out, ← HL'.out]; simp [hll])
    have e1 : ((L : Int) != (L' : Int)) = true := by simp; omega
    clear h hw hL hL' h3 h3' hll
    go_enter Try.func28, Try.ntmps28
    go_wp2
    go_ret
    exact ⟨by rw [HV.out]; rfl, Below.refl _ _⟩

end Go.Proofs.Ytbdceeecngibmaa.Va
