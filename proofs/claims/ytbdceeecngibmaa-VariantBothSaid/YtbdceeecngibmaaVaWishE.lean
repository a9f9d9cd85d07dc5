/- Wish, exactly: the document's and the program's. -/
import Derived.Test.YtbdceeecngibmaaVaWish
import Derived.Test.YtbdceeecngibmaaVaAmong
namespace Go.Proofs.Ytbdceeecngibmaa.Va
open Go.RowKit

def ltS (a b : ByteArray) : Bool := Op.bytesLess a.toList b.toList
def wishP (s : List Set1) (k : Nat) : Bool := nameB (nthT s k).1.data.toList && valB (nthT s k).2.data.toList && (decide (k = 0) || ltS (nthT s (k - 1)).1 (nthT s k).1)
def wishB (s : List Set1) : Bool := (List.range s.length).all (wishP s)
theorem wish_no {s : List Set1} {k : Nat} (hk : k < s.length) (h : wishP s k = false) : wishB s = false := by
  unfold wishB
  rw [List.all_eq_false]
  exact ⟨k, List.mem_range.2 hk, by simp [h]⟩
theorem wish_yes {s : List Set1} (h : ∀ j, j < s.length → wishP s j = true) : wishB s = true := by
  unfold wishB
  exact List.all_eq_true.2 fun j hj => h j (List.mem_range.1 hj)

set_option maxRecDepth 100000 in
set_option maxHeartbeats 3200000 in
theorem refWish_is (w : World) (u : Value) (s : List Set1) (h : Sets w u s) :
    Calls Try.prog 24 #[u] w fun e w' => e = .returned (.bool (wishB s)) ∧ Below w.heap.size w w' := by
  obtain ⟨A, L, c, rfl, hL, h1, h2, h3⟩ := h.open'
  unfold maxLen at h2
  have H3 := Lib.hid h3
  have HLL := Lib.hid hL
  obtain ⟨R, hR⟩ : ∃ R, R = wishB s := ⟨_, rfl⟩
  rw [← hR]
  have HR := Lib.hid hR
  clear h hL h3 hR
  go_enter Try.func24, Try.ntmps24
  go_wp2
  go_loopw [6] (fun i wr => ∃ k : Nat, k ≤ L ∧ i = .int .i64 k ∧ Below w.heap.size w wr ∧ ∀ j, j < k → wishP s j = true) (fun i _ => L - (intOf i).toNat)
  case atStart => exact ⟨0, Nat.zero_le _, rfl, Below.refl _ _, fun j hj => absurd hj (by omega)⟩
  case round =>
    obtain ⟨k, hk, rfl, hbw, hall⟩ := hrel
    have HB := Lib.hid hbw
    have HALL := Lib.hid hall
    clear hall
    by_cases hlt : k < L
    · obtain ⟨b, off, rfl, hb, hc⟩ := H3.out (by omega)
      obtain ⟨g1, g2, g3, g4⟩ := hc k hlt
      have q1 := (hbw.cell (p := ⟨b, off + k * 2, none⟩) hb).trans g1
      have q2 := (hbw.cell (p := ⟨b, off + k * 2 + 1, none⟩) hb).trans g2
      have k0 : (0 : Int) ≤ (k : Int) := by omega
      have k1 : (k : Int) < (L : Int) := by omega
      have HKL := Lib.hid (show k < s.length by rw [← HLL.out]; exact hlt)
      clear g1 g2
      cases n1 : nameB (nthT s k).1.data.toList with
      | false =>
        have HNO := Lib.hid (show R = false by rw [HR.out]; exact wish_no HKL.out (by unfold wishP; rw [n1]; rfl))
        have N1 := Lib.hid n1
        clear n1 hc hbw
        go_wp2_with fail
        go_quiet ((go_at_call 10; exact quiet_eq (refName_is _ false N1.out _)))
        go_wp2
        go_ret
        exact ⟨by rw [HNO.out]; rfl, below_draws HB.out _⟩
      | true =>
        have N1 := Lib.hid n1
        clear n1
        cases n2 : valB (nthT s k).2.data.toList with
        | false =>
          have HNO := Lib.hid (show R = false by rw [HR.out]; exact wish_no HKL.out (by unfold wishP; rw [n2]; simp))
          have N2 := Lib.hid n2
          clear n2 hc hbw
          go_wp2_with fail
          go_quiet ((first | (go_at_call 10; exact quiet_eq (refName_is _ true N1.out _)) | (go_at_call 12; exact quiet_eq (refValue_is2 _ false N2.out _ g4))))
          go_wp2
          go_ret
          exact ⟨by rw [HNO.out]; rfl, below_draws HB.out _⟩
        | true =>
          have N2 := Lib.hid n2
          clear n2
          by_cases hk0 : k = 0
          · have hw : wishP s k = true := by unfold wishP; rw [N1.out, N2.out]; simp [hk0]
            have HW := Lib.hid hw
            have e1 : decide (0 < k) = false := by simp; omega
            clear hc hbw hk0 hw
            go_wp2_with fail
            go_quiet ((first | (go_at_call 10; exact quiet_eq (refName_is _ true N1.out _)) | (go_at_call 12; exact quiet_eq (refValue_is2 _ true N2.out _ g4))))
            go_wp2
            go_roundw
            case rel =>
              refine ⟨k + 1, by omega, by go_num, below_draws HB.out _, fun j hj => ?_⟩
              by_cases e : j = k
              · subst e; exact HW.out
              · exact HALL.out j (by omega)
            case measure => simp [intOf]; omega
          · have e1 : decide (0 < k) = true := by simp; omega
            have e2 : IntKind.i64.wrap ((k : Int) - 1) = ((k - 1 : Nat) : Int) := by rw [IntKind.wrap_i64]; omega
            have p0 : (0 : Int) ≤ ((k - 1 : Nat) : Int) := by omega
            have p1 : ((k - 1 : Nat) : Int) < (L : Int) := by omega
            have q3 := (hbw.cell (p := ⟨b, off + (k - 1) * 2, none⟩) hb).trans (hc (k - 1) (by omega)).1
            cases hl : Op.bytesLess (nthT s (k - 1)).1.toList (nthT s k).1.toList with
            | false =>
              have HNO := Lib.hid (show R = false by rw [HR.out]; exact wish_no HKL.out (by unfold wishP ltS; rw [N1.out, N2.out, hl]; simp [hk0]))
              clear hc hbw hk0
              go_wp2_with fail
              go_quiet ((first | (go_at_call 10; exact quiet_eq (refName_is _ true N1.out _)) | (go_at_call 12; exact quiet_eq (refValue_is2 _ true N2.out _ g4))))
              clear e2
              go_wp2
              go_ret
              exact ⟨by rw [HNO.out]; rfl, below_draws HB.out _⟩
            | true =>
              have hw : wishP s k = true := by unfold wishP ltS; rw [N1.out, N2.out, hl]; simp
              have HW := Lib.hid hw
              clear hc hbw hk0 hw
              go_wp2_with fail
              go_quiet ((first | (go_at_call 10; exact quiet_eq (refName_is _ true N1.out _)) | (go_at_call 12; exact quiet_eq (refValue_is2 _ true N2.out _ g4))))
              clear e2
              go_wp2
              go_roundw
              case rel =>
                refine ⟨k + 1, by omega, by go_num, below_draws HB.out _, fun j hj => ?_⟩
                by_cases e : j = k
                · subst e; exact HW.out
                · exact HALL.out j (by omega)
              case measure => simp [intOf]; omega
    · obtain rfl : k = L := by omega
      have HYES := Lib.hid (show R = true by rw [HR.out]; exact wish_yes (fun j hj => HALL.out j (by rw [HLL.out]; exact hj)))
      clear hbw
      go_wp2
      go_ret
      exact ⟨by rw [HYES.out]; rfl, HB.out⟩

set_option maxRecDepth 100000 in
set_option maxHeartbeats 3200000 in
theorem wish_is (w : World) (u : Value) (s : List Set1) (h : Sets w u s) :
    Calls Try.prog 23 #[u] w fun e w' => e = .returned (.bool (wishB s)) ∧ Below w.heap.size w w' := by
  obtain ⟨A, L, c, rfl, hL, h1, h2, h3⟩ := h.open'
  unfold maxLen at h2
  have H3 := Lib.hid h3
  have HLL := Lib.hid hL
  obtain ⟨R, hR⟩ : ∃ R, R = wishB s := ⟨_, rfl⟩
  rw [← hR]
  have HR := Lib.hid hR
  clear h hL h3 hR
  go_enter Try.func23, Try.ntmps23
  go_wp2
  go_loopw [7] (fun i wr => ∃ k : Nat, k ≤ L ∧ i = .int .i64 k ∧ Below w.heap.size w wr ∧ ∀ j, j < k → wishP s j = true) (fun i _ => L - (intOf i).toNat)
  case atStart => exact ⟨0, Nat.zero_le _, rfl, Below.refl _ _, fun j hj => absurd hj (by omega)⟩
  case round =>
    obtain ⟨k, hk, rfl, hbw, hall⟩ := hrel
    have HB := Lib.hid hbw
    have HALL := Lib.hid hall
    clear hall
    by_cases hlt : k < L
    · obtain ⟨b, off, rfl, hb, hc⟩ := H3.out (by omega)
      obtain ⟨g1, g2, g3, g4⟩ := hc k hlt
      have q1 := (hbw.cell (p := ⟨b, off + k * 2, none⟩) hb).trans g1
      have q2 := (hbw.cell (p := ⟨b, off + k * 2 + 1, none⟩) hb).trans g2
      have k0 : (0 : Int) ≤ (k : Int) := by omega
      have k1 : (k : Int) < (L : Int) := by omega
      have HKL := Lib.hid (show k < s.length by rw [← HLL.out]; exact hlt)
      have hq3 : ∀ j, j < k → wr.cell? ⟨b, off + j * 2, none⟩ = some (.string (nthT s j).1) := fun j hj => (hbw.cell (p := ⟨b, off + j * 2, none⟩) hb).trans (hc j (by omega)).1
      have HQ3 := Lib.hid hq3
      clear g1 g2 hc hq3
      have HBA := Lib.hid (HB.out.alloc HB.out.size (.cells #[.string (nthT s k).1, .string (nthT s k).2] 37))
      have zz := heap_alloc_new wr (.cells #[.string (nthT s k).1, .string (nthT s k).2] 37)
      have z0 := cells_get zz 0 (v := .string (nthT s k).1) rfl
      have z1 := cells_get zz 1 (v := .string (nthT s k).2) rfl
      cases n1 : nameB (nthT s k).1.data.toList with
      | false =>
        have HNO := Lib.hid (show R = false by rw [HR.out]; exact wish_no HKL.out (by unfold wishP; rw [n1]; rfl))
        have N1 := Lib.hid n1
        clear n1 hbw zz
        go_wp2_with fail
        go_quiet ((go_at_call 9; exact quiet_eq (name_is _ false N1.out _)))
        go_wp2
        go_ret
        exact ⟨by rw [HNO.out]; rfl, below_draws HBA.out _⟩
      | true =>
        have N1 := Lib.hid n1
        clear n1
        cases n2 : valB (nthT s k).2.data.toList with
        | false =>
          have HNO := Lib.hid (show R = false by rw [HR.out]; exact wish_no HKL.out (by unfold wishP; rw [n2]; simp))
          have N2 := Lib.hid n2
          clear n2 hbw zz
          go_wp2_with fail
          go_quiet ((first | (go_at_call 9; exact quiet_eq (name_is _ true N1.out _)) | (go_at_call 11; exact quiet_eq (value_is _ false N2.out _ g4))))
          go_wp2
          go_ret
          exact ⟨by rw [HNO.out]; rfl, below_draws HBA.out _⟩
        | true =>
          have N2 := Lib.hid n2
          clear n2
          by_cases hk0 : k = 0
          · have hw : wishP s k = true := by unfold wishP; rw [N1.out, N2.out]; simp [hk0]
            have HW := Lib.hid hw
            have e1 : decide (0 < k) = false := by simp; omega
            clear hbw hk0 hw zz
            go_wp2_with fail
            go_quiet ((first | (go_at_call 9; exact quiet_eq (name_is _ true N1.out _)) | (go_at_call 11; exact quiet_eq (value_is _ true N2.out _ g4))))
            go_wp2
            go_roundw
            case rel =>
              refine ⟨k + 1, by omega, by go_num, below_draws HBA.out _, fun j hj => ?_⟩
              by_cases e : j = k
              · subst e; exact HW.out
              · exact HALL.out j (by omega)
            case measure => simp [intOf]; omega
          · have e1 : decide (0 < k) = true := by simp; omega
            have e2 : IntKind.i64.wrap ((k : Int) - 1) = ((k - 1 : Nat) : Int) := by rw [IntKind.wrap_i64]; omega
            have p0 : (0 : Int) ≤ ((k - 1 : Nat) : Int) := by omega
            have p1 : ((k - 1 : Nat) : Int) < (L : Int) := by omega
            have q3 := cell_alloc_l (.cells #[.string (nthT s k).1, .string (nthT s k).2] 37) (HQ3.out (k - 1) (by omega))
            cases hl : Op.bytesLess (nthT s (k - 1)).1.toList (nthT s k).1.toList with
            | false =>
              have HNO := Lib.hid (show R = false by rw [HR.out]; exact wish_no HKL.out (by unfold wishP ltS; rw [N1.out, N2.out, hl]; simp [hk0]))
              clear hbw hk0 zz
              go_wp2_with fail
              go_quiet ((first | (go_at_call 9; exact quiet_eq (name_is _ true N1.out _)) | (go_at_call 11; exact quiet_eq (value_is _ true N2.out _ g4))))
              clear e2
              go_wp2
              go_ret
              exact ⟨by rw [HNO.out]; rfl, below_draws HBA.out _⟩
            | true =>
              have hw : wishP s k = true := by unfold wishP ltS; rw [N1.out, N2.out, hl]; simp
              have HW := Lib.hid hw
              clear hbw hk0 hw zz
              go_wp2_with fail
              go_quiet ((first | (go_at_call 9; exact quiet_eq (name_is _ true N1.out _)) | (go_at_call 11; exact quiet_eq (value_is _ true N2.out _ g4))))
              clear e2
              go_wp2
              go_roundw
              case rel =>
                refine ⟨k + 1, by omega, by go_num, below_draws HBA.out _, fun j hj => ?_⟩
                by_cases e : j = k
                · subst e; exact HW.out
                · exact HALL.out j (by omega)
              case measure => simp [intOf]; omega
    · obtain rfl : k = L := by omega
      have HYES := Lib.hid (show R = true by rw [HR.out]; exact wish_yes (fun j hj => HALL.out j (by rw [HLL.out]; exact hj)))
      clear hbw
      go_wp2
      go_ret
      exact ⟨by rw [HYES.out]; rfl, HB.out⟩

end Go.Proofs.Ytbdceeecngibmaa.Va
