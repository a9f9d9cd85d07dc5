/- slices.Contains over settings; among; Meets. -/
import Derived.Test.YtbdceeecngibmaaVaUsual
namespace Go.Proofs.Ytbdceeecngibmaa.Va
open Go.RowKit

def eqT (a b : Set1) : Bool := eqS a.1 b.1 && eqS a.2 b.2
def hasT (l : List Set1) (x : Set1) : Bool := l.any (eqT x)
theorem any_snocT {l : List Set1} {k : Nat} (hk : k < l.length) (p : Set1 → Bool) : (l.take (k + 1)).any p = ((l.take k).any p || p (nthT l k)) := by
  rw [List.take_succ_eq_append_getElem hk, List.any_append, nthT_lt hk]; simp
theorem any_atT {l : List Set1} {k : Nat} (hk : k < l.length) {p : Set1 → Bool} (h : p (nthT l k) = true) : l.any p = true :=
  List.any_eq_true.2 ⟨_, nthT_mem hk, h⟩

set_option maxRecDepth 100000 in
set_option maxHeartbeats 800000 in
theorem indexT_any (w : World) (v : Value) (l : List Set1) (x y : ByteArray) (h : Sets w v l) :
    Calls Try.prog 55 #[v, .agg #[.string x, .string y]] w fun e w' => (∃ n : Int, e = .returned (.int .i64 n) ∧ decide (0 ≤ n) = hasT l (x, y)) ∧ Below w.heap.size w w' := by
  obtain ⟨A, L, c, rfl, hL, h1, h2, h3⟩ := h.open'
  unfold maxLen at h2
  have HL := Lib.hid hL
  have H3 := Lib.hid h3
  have hb0 : Below w.heap.size w (w.alloc (.cells #[.string x, .string y] 37)) := (Below.refl _ _).alloc (Nat.le_refl _) _
  have hnew := heap_alloc_new w (.cells #[.string x, .string y] 37)
  have HB0 := Lib.hid hb0
  have HNEW := Lib.hid hnew
  clear h hL h3 hb0 hnew
  go_enter Try.func55, Try.ntmps55
  go_wp2
  go_loopw [8] (fun i wr => ∃ k : Nat, k ≤ L ∧ i = .int .i64 k ∧ Hid ((l.take k).any (eqT (x, y)) = false) ∧ Below (w.heap.size + 1) (w.alloc (.cells #[.string x, .string y] 37)) wr) (fun i _ => L - (intOf i).toNat)
  case atStart => exact ⟨0, Nat.zero_le _, rfl, Lib.hid (by simp), Below.refl _ _⟩
  case round =>
    obtain ⟨k, hk, rfl, hall, hbw⟩ := hrel
    have HBW := Lib.hid hbw
    by_cases hlt : k < L
    · obtain ⟨b, off, rfl, hb, hc⟩ := H3.out (by omega)
      have c0 := (hbw.cell (p := ⟨b, off + k * 2, none⟩) (by simp; omega)).trans ((HB0.out.cell (p := ⟨b, off + k * 2, none⟩) hb).trans (hc k hlt).1)
      have c1 := (hbw.cell (p := ⟨b, off + k * 2 + 1, none⟩) (by simp; omega)).trans ((HB0.out.cell (p := ⟨b, off + k * 2 + 1, none⟩) hb).trans (hc k hlt).2.1)
      have x0 := (hbw.cell (p := ⟨w.heap.size, 0, none⟩) (by simp)).trans (cells_get HNEW.out 0 (v := .string x) rfl)
      have x1 := (hbw.cell (p := ⟨w.heap.size, 1, none⟩) (by simp)).trans (cells_get HNEW.out 1 (v := .string y) rfl)
      have hkl : k < l.length := by rw [← HL.out]; exact hlt
      have HS := Lib.hid (any_snocT hkl (eqT (x, y)))
      have k0 : (0 : Int) ≤ (k : Int) := by omega
      have k1 : (k : Int) < (L : Int) := by omega
      clear hc hbw
      cases he : eqS x (nthT l k).1 with
      | false =>
        have hn : Hid ((l.take (k + 1)).any (eqT (x, y)) = false) := Lib.hid (by rw [HS.out, hall.out]; unfold eqT; rw [he]; rfl)
        have e2 : (x.toList == (nthT l k).1.toList) = false := he
        clear he hkl
        go_wp2_with fail
        go_quiet (fail)
        go_wp2
        go_roundw
        case rel => exact ⟨k + 1, by omega, by go_num, hn, below_draws HBW.out _⟩
        case measure => simp [intOf]; omega
      | true =>
        have e2 : (x.toList == (nthT l k).1.toList) = true := he
        cases he' : eqS y (nthT l k).2 with
        | false =>
          have hn : Hid ((l.take (k + 1)).any (eqT (x, y)) = false) := Lib.hid (by rw [HS.out, hall.out]; unfold eqT; rw [he, he']; rfl)
          have e3 : (y.toList == (nthT l k).2.toList) = false := he'
          clear he he' hkl
          go_wp2_with fail
          go_quiet (fail)
          go_wp2
          go_roundw
          case rel => exact ⟨k + 1, by omega, by go_num, hn, below_draws HBW.out _⟩
          case measure => simp [intOf]; omega
        | true =>
          have Hv := Lib.hid (show hasT l (x, y) = true from any_atT hkl (by unfold eqT; rw [he, he']; rfl))
          have e3 : (y.toList == (nthT l k).2.toList) = true := he'
          clear he he' hkl
          go_wp2_with fail
          go_quiet (fail)
          go_wp2
          go_ret
          exact ⟨⟨k, rfl, by rw [Hv.out]; simp⟩, HB0.out.trans (below_draws (HBW.out.mono (by omega)) _)⟩
    · obtain rfl : k = L := by omega
      have Hv := Lib.hid (show hasT l (x, y) = false by
        have := hall.out
        rw [HL.out, List.take_length] at this
        exact this)
      clear hbw
      go_wp2
      go_ret
      exact ⟨⟨-1, rfl, by rw [Hv.out]; rfl⟩, HB0.out.trans (HBW.out.mono (by omega))⟩

theorem containsT_any (w : World) (v : Value) (l : List Set1) (x y : ByteArray) (h : Sets w v l) :
    Calls Try.prog 50 #[v, .agg #[.string x, .string y]] w fun e w' => e = .returned (.bool (hasT l (x, y))) ∧ Below w.heap.size w w' := by
  have hb0 : Below w.heap.size w (w.alloc (.cells #[.string x, .string y] 37)) := (Below.refl _ _).alloc (Nat.le_refl _) _
  have H := Lib.hid (h.below hb0 (Nat.le_refl _))
  have HB0 := Lib.hid hb0
  clear h hb0
  go_enter Try.func50, Try.ntmps50
  go_wp2_with fail
  refine (indexT_any _ v l x y H.out).mono ?_
  rintro e w' ⟨⟨n, rfl, hn⟩, hb⟩
  have HN := Lib.hid hn
  have HB := Lib.hid (HB0.out.trans (hb.mono HB0.out.size))
  clear hn hb
  go_wp2
  go_ret
  exact ⟨by rw [← HN.out]; rfl, HB.out⟩

/-- The function that among makes: its block P holds the slice. -/
theorem amongC_any (w : World) (v : Value) (l : List Set1) (x y : ByteArray) (P : Nat) (h : Sets w v l) (hP : w.cell? ⟨P, 0, none⟩ = some v) :
    Calls Try.prog 49 #[.agg #[.string x, .string y], .pointer (some ⟨P, 0, none⟩)] w fun e w' => e = .returned (.bool (hasT l (x, y))) ∧ Below w.heap.size w w' := by
  have hb0 : Below w.heap.size w (w.alloc (.cells #[.string x, .string y] 37)) := (Below.refl _ _).alloc (Nat.le_refl _) _
  have H := Lib.hid (h.below hb0 (Nat.le_refl _))
  have HB0 := Lib.hid hb0
  have hlp := World.block_lt_of_cell? w _ hP
  have hp1 := (hb0.cell (p := ⟨P, 0, none⟩) hlp).trans hP
  obtain ⟨A, L, c, rfl, h2⟩ := h.open'
  clear hb0 hP h2 h
  go_enter Try.func49, Try.ntmps49
  go_wp2_with fail
  refine (containsT_any _ _ l x y H.out).mono ?_
  rintro e w' ⟨rfl, hb⟩
  have HB := Lib.hid (HB0.out.trans (hb.mono HB0.out.size))
  clear hb
  go_wp2
  go_ret
  exact ⟨rfl, HB.out⟩

theorem among_any (w : World) (v : Value) (l : List Set1) (h : Sets w v l) :
    Calls Try.prog 40 #[v] w fun e w' => e = .returned (.func (.func 49) #[] #[.pointer (some ⟨w.heap.size, 0, none⟩)]) ∧ w'.heap.size = w.heap.size + 1 ∧ w'.cell? ⟨w.heap.size, 0, none⟩ = some v ∧ Below w.heap.size w w' := by
  obtain ⟨A, L, c, rfl, h2⟩ := h.open'
  clear h h2
  go_enter Try.func40, Try.ntmps40
  go_wp2
  go_ret
  exact ⟨rfl, by simp, cells_get (heap_alloc_new w _) 0 rfl, (Below.refl _ _).alloc (Nat.le_refl _) _⟩

def meetsB (s wish : List Set1) : Bool := wish.all (hasT s)
theorem meets_snoc {l : List Set1} {k : Nat} (hk : k < l.length) (s : List Set1) : meetsB s (l.take (k + 1)) = (meetsB s (l.take k) && hasT s (nthT l k)) := by
  unfold meetsB
  rw [List.take_succ_eq_append_getElem hk, List.all_append, nthT_lt hk]; simp

set_option maxRecDepth 100000 in
set_option maxHeartbeats 800000 in
theorem meets_any (w : World) (v u : Value) (s wish : List Set1) (h : Sets w v s) (hw : Sets w u wish) :
    Calls Try.prog 25 #[v, u] w fun e w' => e = .returned (.bool (meetsB s wish)) ∧ Below w.heap.size w w' := by
  obtain ⟨A, L, c, rfl, hL, h1, h2, h3⟩ := hw.open'
  unfold maxLen at h2
  have HL := Lib.hid hL
  have H3 := Lib.hid h3
  have HS := Lib.hid h
  obtain ⟨As, Ls, cs, rfl, hs2⟩ := h.open'
  clear h hL h3 hw hs2
  go_enter Try.func25, Try.ntmps25
  go_wp2_with fail
  refine (among_any w _ s HS.out).mono ?_
  rintro e w1 ⟨rfl, hz1, hp1, hb1⟩
  have HP1 := Lib.hid hp1
  have HB1 := Lib.hid hb1
  have hz : w.heap.size < w1.heap.size := by omega
  clear hz1 hp1 hb1
  go_wp2
  go_loopw [12] (fun i wr => ∃ k : Nat, k ≤ L ∧ i = .int .i64 k ∧ Hid (meetsB s (wish.take k) = true) ∧ Below w1.heap.size w1 wr) (fun i _ => L - (intOf i).toNat)
  case atStart => exact ⟨0, Nat.zero_le _, rfl, Lib.hid (by simp [meetsB]), Below.refl _ _⟩
  case round =>
    obtain ⟨k, hk, rfl, hall, hbw⟩ := hrel
    have HBW := Lib.hid hbw
    have HBT := Lib.hid (HB1.out.trans (hbw.mono HB1.out.size))
    by_cases hlt : k < L
    · obtain ⟨b, off, rfl, hb, hc⟩ := H3.out (by omega)
      have c0 := (HBT.out.cell (p := ⟨b, off + k * 2, none⟩) hb).trans (hc k hlt).1
      have c1 := (HBT.out.cell (p := ⟨b, off + k * 2 + 1, none⟩) hb).trans (hc k hlt).2.1
      have hkl : k < wish.length := by rw [← HL.out]; exact hlt
      have HSN := Lib.hid (meets_snoc hkl s)
      have hbA : Below w1.heap.size w1 (wr.alloc (.cells #[.string (nthT wish k).1, .string (nthT wish k).2] 37)) := hbw.alloc hbw.size _
      have hbT : Below w.heap.size w (wr.alloc (.cells #[.string (nthT wish k).1, .string (nthT wish k).2] 37)) := HB1.out.trans (hbA.mono HB1.out.size)
      have HP2 := Lib.hid ((hbA.cell (p := ⟨w.heap.size, 0, none⟩) hz).trans HP1.out)
      have HS2 := Lib.hid (HS.out.below hbT (Nat.le_refl _))
      have HBA := Lib.hid hbA
      clear hc hbw hkl hbA hbT
      go_wp2_with fail
      refine (amongC_any _ _ s _ _ w.heap.size HS2.out HP2.out).mono ?_
      rintro e w3 ⟨rfl, hb3⟩
      have HB3 := Lib.hid (HBA.out.trans (hb3.mono HBA.out.size))
      clear hb3 c0 c1
      cases hh : hasT s ((nthT wish k).1, (nthT wish k).2) with
      | false =>
        have Hv := Lib.hid (show meetsB s wish = false by
          unfold meetsB
          exact List.all_eq_false.2 ⟨nthT wish k, nthT_mem (by rw [← HL.out]; exact hlt), by rw [show nthT wish k = ((nthT wish k).1, (nthT wish k).2) from rfl, hh]; simp⟩)
        clear hh
        go_wp2
        go_ret
        exact ⟨by rw [Hv.out]; rfl, HB1.out.trans (HB3.out.mono HB1.out.size)⟩
      | true =>
        have hn : Hid (meetsB s (wish.take (k + 1)) = true) := Lib.hid (by rw [HSN.out, hall.out, show nthT wish k = ((nthT wish k).1, (nthT wish k).2) from rfl, hh]; rfl)
        clear hh
        go_wp2
        go_roundw
        case rel => exact ⟨k + 1, by omega, by go_num, hn, HB3.out⟩
        case measure => simp [intOf]; omega
    · obtain rfl : k = L := by omega
      have Hv := Lib.hid (show meetsB s wish = true by
        have := hall.out
        rwa [HL.out, List.take_length] at this)
      clear hbw
      go_wp2
      go_ret
      exact ⟨by rw [Hv.out]; rfl, HBT.out⟩

end Go.Proofs.Ytbdceeecngibmaa.Va
