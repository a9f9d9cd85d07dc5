/- The document's Wish: it returns. -/
import Derived.Test.YtbdceeecngibmaaVaRefMay
namespace Go.Proofs.Ytbdceeecngibmaa.Va
open Go.RowKit

def SomeBW (w : World) (e : Ending) (w' : World) : Prop := ∃ b : Bool, e = .returned (.bool b) ∧ Below w.heap.size w w'

set_option maxRecDepth 100000 in
set_option maxHeartbeats 3200000 in
theorem refWish_any (w : World) (u : Value) (s : List Set1) (h : Sets w u s) :
    Calls Try.prog 24 #[u] w (SomeBW w) := by
  obtain ⟨A, L, c, rfl, hL, h1, h2, h3⟩ := h.open'
  unfold maxLen at h2
  have H3 := Lib.hid h3
  clear h hL h3
  go_enter Try.func24, Try.ntmps24
  go_wp2
  go_loopw [6] (fun i wr => ∃ k : Nat, k ≤ L ∧ i = .int .i64 k ∧ Below w.heap.size w wr) (fun i _ => L - (intOf i).toNat)
  case atStart => exact ⟨0, Nat.zero_le _, rfl, Below.refl _ _⟩
  case round =>
    obtain ⟨k, hk, rfl, hbw⟩ := hrel
    have HB := Lib.hid hbw
    by_cases hlt : k < L
    · obtain ⟨b, off, rfl, hb, hc⟩ := H3.out (by omega)
      obtain ⟨g1, g2, g3, g4⟩ := hc k hlt
      have q1 := (hbw.cell (p := ⟨b, off + k * 2, none⟩) hb).trans g1
      have q2 := (hbw.cell (p := ⟨b, off + k * 2 + 1, none⟩) hb).trans g2
      have k0 : (0 : Int) ≤ (k : Int) := by omega
      have k1 : (k : Int) < (L : Int) := by omega
      clear g1 g2
      cases n1 : nameB (nthT s k).1.data.toList with
      | false =>
        have N1 := Lib.hid n1
        clear n1 hc hbw
        go_wp2_with fail
        go_quiet ((go_at_call 10; exact quiet_eq (refName_is _ false N1.out _)))
        go_wp2
        go_ret
        exact ⟨_, rfl, below_draws HB.out _⟩
      | true =>
        have N1 := Lib.hid n1
        clear n1
        cases n2 : valB (nthT s k).2.data.toList with
        | false =>
          have N2 := Lib.hid n2
          clear n2 hc hbw
          go_wp2_with fail
          go_quiet ((first | (go_at_call 10; exact quiet_eq (refName_is _ true N1.out _)) | (go_at_call 12; exact quiet_eq (refValue_is2 _ false N2.out _ g4))))
          go_wp2
          go_ret
          exact ⟨_, rfl, below_draws HB.out _⟩
        | true =>
          have N2 := Lib.hid n2
          clear n2
          by_cases hk0 : k = 0
          · have e1 : decide (0 < k) = false := by simp; omega
            clear hc hbw hk0
            go_wp2_with fail
            go_quiet ((first | (go_at_call 10; exact quiet_eq (refName_is _ true N1.out _)) | (go_at_call 12; exact quiet_eq (refValue_is2 _ true N2.out _ g4))))
            go_wp2
            go_roundw
            case rel => exact ⟨k + 1, by omega, by go_num, below_draws HB.out _⟩
            case measure => simp [intOf]; omega
          · have e1 : decide (0 < k) = true := by simp; omega
            have e2 : IntKind.i64.wrap ((k : Int) - 1) = ((k - 1 : Nat) : Int) := by rw [IntKind.wrap_i64]; omega
            have p0 : (0 : Int) ≤ ((k - 1 : Nat) : Int) := by omega
            have p1 : ((k - 1 : Nat) : Int) < (L : Int) := by omega
            have q3 := (hbw.cell (p := ⟨b, off + (k - 1) * 2, none⟩) hb).trans (hc (k - 1) (by omega)).1
            clear hc hbw hk0
            go_wp2_with fail
            go_quiet ((first | (go_at_call 10; exact quiet_eq (refName_is _ true N1.out _)) | (go_at_call 12; exact quiet_eq (refValue_is2 _ true N2.out _ g4))))
            clear e2
            go_wp2
            · go_ret
              exact ⟨_, rfl, below_draws HB.out _⟩
            · go_roundw
              case rel => exact ⟨k + 1, by omega, by go_num, below_draws HB.out _⟩
              case measure => simp [intOf]; omega
    · go_wp2
      go_ret
      exact ⟨_, rfl, HB.out⟩

end Go.Proofs.Ytbdceeecngibmaa.Va
