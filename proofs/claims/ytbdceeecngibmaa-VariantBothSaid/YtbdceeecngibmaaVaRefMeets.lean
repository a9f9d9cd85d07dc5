/- The document's Has, Meets, Same. -/
import Derived.Test.YtbdceeecngibmaaVaAmong
namespace Go.Proofs.Ytbdceeecngibmaa.Va
open Go.RowKit

set_option maxRecDepth 100000 in
set_option maxHeartbeats 800000 in
theorem refHas_any (w : World) (v : Value) (l : List Set1) (x y : ByteArray) (h : Sets w v l) :
    Calls Try.prog 42 #[v, .agg #[.string x, .string y]] w fun e w' => e = .returned (.bool (hasT l (x, y))) ∧ Below w.heap.size w w' := by
  obtain ⟨A, L, c, rfl, hL, h1, h2, h3⟩ := h.open'
  unfold maxLen at h2
  have HL := Lib.hid hL
  have H3 := Lib.hid h3
  have hb0 : Below w.heap.size w (w.alloc (.cells #[.string x, .string y] 37)) := (Below.refl _ _).alloc (Nat.le_refl _) _
  have hnew := heap_alloc_new w (.cells #[.string x, .string y] 37)
  have HB0 := Lib.hid hb0
  have HNEW := Lib.hid hnew
  clear h hL h3 hb0 hnew
  go_enter Try.func42, Try.ntmps42
  go_wp2
  go_loopw [8] (fun i wr => ∃ k : Nat, k ≤ L ∧ i = .int .i64 k ∧ Hid ((l.take k).any (eqT (x, y)) = false) ∧ Below (w.heap.size + 1) (w.alloc (.cells #[.string x, .string y] 37)) wr) (fun i _ => L - (intOf i).toNat)
  case atStart => exact ⟨0, Nat.zero_le _, rfl, Lib.hid (by simp), Below.refl _ _⟩
  case round =>
    obtain ⟨k, hk, rfl, hall, hbw⟩ := hrel
    have HBW := Lib.hid hbw
    by_cases hlt : k < L
    · obtain ⟨b, off, rfl, hb, hc⟩ := H3.out (by omega)
      have c0 := (hbw.cell (p := ⟨b, off + k * 2, none⟩) (by simp; omega)).trans ((HB0.out.cell (p := ⟨b, off + k * 2, none⟩) hb).trans (hc k hlt).1)
      have c1 := (hbw.cell (p := ⟨b, off + k * 2 + 1, none⟩) (by simp; omega)).trans ((HB0.out.cell (p := ⟨b, off + k * 2 + 1, none⟩) hb).trans (hc k hlt).2.1)
      have x0 := (hbw.cell (p := ⟨w.heap.size, 0, none⟩) (by simp)).trans (cells_get HNEW.out 0 (v := .string x) rfl)
      have x1 := (hbw.cell (p := ⟨w.heap.size, 1, none⟩) (by simp)).trans (cells_get HNEW.out 1 (v := .string y) rfl)
      have hkl : k < l.length := by rw [← HL.out]; exact hlt
      have HS := Lib.hid (any_snocT hkl (eqT (x, y)))
      have k0 : (0 : Int) ≤ (k : Int) := by omega
      have k1 : (k : Int) < (L : Int) := by omega
      clear hc hbw
      cases he : eqS x (nthT l k).1 with
      | false =>
        have hn : Hid ((l.take (k + 1)).any (eqT (x, y)) = false) := Lib.hid (by rw [HS.out, hall.out]; unfold eqT; rw [he]; rfl)
        have e2 : ((nthT l k).1.toList == x.toList) = false := by rw [Bool.beq_comm]; exact he
        clear he hkl
        go_wp2_with fail
        go_quiet (fail)
        go_wp2
        go_roundw
        case rel => exact ⟨k + 1, by omega, by go_num, hn, below_draws HBW.out _⟩
        case measure => simp [intOf]; omega
      | true =>
        have e2 : ((nthT l k).1.toList == x.toList) = true := by rw [Bool.beq_comm]; exact he
        cases he' : eqS y (nthT l k).2 with
        | false =>
          have hn : Hid ((l.take (k + 1)).any (eqT (x, y)) = false) := Lib.hid (by rw [HS.out, hall.out]; unfold eqT; rw [he, he']; rfl)
          have e3 : ((nthT l k).2.toList == y.toList) = false := by rw [Bool.beq_comm]; exact he'
          clear he he' hkl
          go_wp2_with fail
          go_quiet (fail)
          go_wp2
          go_roundw
          case rel => exact ⟨k + 1, by omega, by go_num, hn, below_draws HBW.out _⟩
          case measure => simp [intOf]; omega
        | true =>
          have Hv := Lib.hid (show hasT l (x, y) = true from any_atT hkl (by unfold eqT; rw [he, he']; rfl))
          have e3 : ((nthT l k).2.toList == y.toList) = true := by rw [Bool.beq_comm]; exact he'
          clear he he' hkl
          go_wp2_with fail
          go_quiet (fail)
          go_wp2
          go_ret
          exact ⟨by rw [Hv.out]; rfl, HB0.out.trans (below_draws (HBW.out.mono (by omega)) _)⟩
    · obtain rfl : k = L := by omega
      have Hv := Lib.hid (show hasT l (x, y) = false by
        have := hall.out
        rw [HL.out, List.take_length] at this
        exact this)
      clear hbw
      go_wp2
      go_ret
      exact ⟨by rw [Hv.out]; rfl, HB0.out.trans (HBW.out.mono (by omega))⟩


set_option maxRecDepth 100000 in
set_option maxHeartbeats 800000 in
theorem refMeets_any (w : World) (v u : Value) (s wish : List Set1) (h : Sets w v s) (hw : Sets w u wish) :
    Calls Try.prog 26 #[v, u] w fun e w' => e = .returned (.bool (meetsB s wish)) ∧ Below w.heap.size w w' := by
  obtain ⟨A, L, c, rfl, hL, h1, h2, h3⟩ := hw.open'
  unfold maxLen at h2
  have HL := Lib.hid hL
  have H3 := Lib.hid h3
  have HS := Lib.hid h
  obtain ⟨As, Ls, cs, rfl, hs2⟩ := h.open'
  clear h hL h3 hw hs2
  go_enter Try.func26, Try.ntmps26
  go_wp2
  go_loopw [8] (fun i wr => ∃ k : Nat, k ≤ L ∧ i = .int .i64 k ∧ Hid (meetsB s (wish.take k) = true) ∧ Below w.heap.size w wr) (fun i _ => L - (intOf i).toNat)
  case atStart => exact ⟨0, Nat.zero_le _, rfl, Lib.hid (by simp [meetsB]), Below.refl _ _⟩
  case round =>
    obtain ⟨k, hk, rfl, hall, hbw⟩ := hrel
    have HBW := Lib.hid hbw
    by_cases hlt : k < L
    · obtain ⟨b, off, rfl, hb, hc⟩ := H3.out (by omega)
      have c0 := (hbw.cell (p := ⟨b, off + k * 2, none⟩) hb).trans (hc k hlt).1
      have c1 := (hbw.cell (p := ⟨b, off + k * 2 + 1, none⟩) hb).trans (hc k hlt).2.1
      have hkl : k < wish.length := by rw [← HL.out]; exact hlt
      have HSN := Lib.hid (meets_snoc hkl s)
      have HKL := Lib.hid hkl
      have HS2 := Lib.hid (HS.out.below hbw (Nat.le_refl _))
      have k0 : (0 : Int) ≤ (k : Int) := by omega
      have k1 : (k : Int) < (L : Int) := by omega
      clear hc hbw hkl
      cases hh : hasT s (nthT wish k) with
      | false =>
        have hv : meetsB s wish = false := by
          unfold meetsB
          rw [List.all_eq_false]
          exact ⟨nthT wish k, nthT_mem HKL.out, by simp [hh]⟩
        have HV := Lib.hid hv
        have HH := Lib.hid (show hasT s ((nthT wish k).1, (nthT wish k).2) = false from hh)
        clear hv hh
        go_wp2_with fail
        refine (refHas_any _ _ s _ _ HS2.out).mono ?_
        rw [HH.out]
        rintro e w3 ⟨rfl, hb3⟩
        have HB3 := Lib.hid (HBW.out.trans (hb3.mono HBW.out.size))
        clear hb3
        go_wp2
        go_ret
        exact ⟨by rw [HV.out]; rfl, HB3.out⟩
      | true =>
        have HN := Lib.hid (show meetsB s (wish.take (k + 1)) = true by rw [HSN.out, hall.out, hh]; rfl)
        have HH := Lib.hid (show hasT s ((nthT wish k).1, (nthT wish k).2) = true from hh)
        clear hh
        go_wp2_with fail
        refine (refHas_any _ _ s _ _ HS2.out).mono ?_
        rw [HH.out]
        rintro e w3 ⟨rfl, hb3⟩
        have HB3 := Lib.hid (HBW.out.trans (hb3.mono HBW.out.size))
        clear hb3
        go_wp2
        go_roundw
        case rel => exact ⟨k + 1, by omega, by go_num, HN, HB3.out⟩
        case measure => simp [intOf]; omega
    · obtain rfl : k = L := by omega
      have HV := Lib.hid (show meetsB s wish = true by
        have := hall.out
        rw [HL.out, List.take_length] at this
        exact this)
      clear hbw
      go_wp2
      go_ret
      exact ⟨by rw [HV.out]; rfl, HBW.out⟩

end Go.Proofs.Ytbdceeecngibmaa.Va
