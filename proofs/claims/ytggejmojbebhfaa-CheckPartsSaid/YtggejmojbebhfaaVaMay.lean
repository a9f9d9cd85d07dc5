/- The walks of slices.Contains over texts, of mayOne and of May. -/
import Derived.Test.YtggejmojbebhfaaVaMayMath
import Derived.Test.YtggejmojbebhfaaVaRefName
namespace Go.Proofs.Ytggejmojbebhfaa.Va
open Go.RowKit

theorem bcell {B : Nat} {W w1 : World} (hb : Below B W w1) : (∀ b o, b < B → w1.cell? ⟨b, o, none⟩ = W.cell? ⟨b, o, none⟩) ∧ (∀ b o, b < B → w1.frozen? ⟨b, o, none⟩ = W.frozen? ⟨b, o, none⟩) :=
  ⟨fun b o h => hb.cell (p := ⟨b, o, none⟩) h, fun b o h => hb.frozen (p := ⟨b, o, none⟩) h⟩

set_option maxHeartbeats 800000 in
theorem index_any (w : World) (v : Value) (l : List ByteArray) (x : ByteArray) (h : Strs w v l) :
    Calls Try.prog 54 #[v, .string x] w fun e w' => (∃ n : Int, e = .returned (.int .i64 n) ∧ decide (0 ≤ n) = hasS l x) ∧ w = w' := by
  obtain ⟨A, L, c, rfl, hL, h1, h2, h3⟩ := h.open'
  unfold maxLen at h2
  have HL := Lib.hid hL
  have H3 := Lib.hid h3
  clear h hL h3
  go_enter Try.func54, Try.ntmps54
  go_wp2
  go_loop [8] (fun i => ∃ k : Nat, k ≤ L ∧ i = .int .i64 k ∧ Hid ((l.take k).any (eqS x) = false)) (fun i => L - (intOf i).toNat)
  case atStart => exact ⟨0, Nat.zero_le _, rfl, Lib.hid (by simp)⟩
  case round =>
    obtain ⟨k, hk, rfl, hall⟩ := hrel
    by_cases hlt : k < L
    · obtain ⟨b, off, rfl, hb, hc⟩ := H3.out (by omega)
      have hck := (hc k hlt).1
      have hkl : k < l.length := by rw [← HL.out]; exact hlt
      have hs := any_snocS hkl (eqS x)
      clear hc
      cases he : eqS x (nthS l k) with
      | true =>
        have Hv := Lib.hid (show hasS l x = true from any_atS hkl he)
        have he2 : (x.toList == (nthS l k).toList) = true := he
        have HS := Lib.hid hs
        clear he hs hkl
        go_wp2
        go_ret
        exact ⟨⟨k, rfl, by rw [Hv.out]; simp⟩, rfl⟩
      | false =>
        have hn : Hid ((l.take (k + 1)).any (eqS x) = false) := Lib.hid (by rw [hs, hall.out, he]; rfl)
        have he2 : (x.toList == (nthS l k).toList) = false := he
        clear he hs hkl
        go_wp2
        go_round
        case rel => exact ⟨k + 1, by omega, by go_num, hn⟩
        case measure => simp [intOf]; omega
    · obtain rfl : k = L := by omega
      have Hv := Lib.hid (show hasS l x = false by
        have := hall.out
        rw [HL.out, List.take_length] at this
        exact this)
      go_wp2
      go_ret
      exact ⟨⟨-1, rfl, by rw [Hv.out]; rfl⟩, rfl⟩

theorem contains_any (w : World) (v : Value) (l : List ByteArray) (x : ByteArray) (h : Strs w v l) :
    Calls Try.prog 42 #[v, .string x] w fun e w' => e = .returned (.bool (hasS l x)) ∧ w = w' := by
  go_enter Try.func42, Try.ntmps42
  go_wp2_with fail
  refine (index_any w v l x h).mono ?_
  rintro e w' ⟨⟨n, rfl, hn⟩, rfl⟩
  have HN := Lib.hid hn
  clear hn
  go_wp2
  go_ret
  exact ⟨by rw [← HN.out]; rfl, rfl⟩

theorem contains_is (w : World) (v : Value) (l : List ByteArray) (x : ByteArray) (h : Strs w v l) (b : Bool) (hb : hasS l x = b) :
    Calls Try.prog 42 #[v, .string x] w fun e w' => e = .returned (.bool b) ∧ w = w' := by subst hb; exact contains_any w v l x h

theorem value_is (s : ByteArray) (b : Bool) (h : valB s.data.toList = b) (w : World) (hs : s.size ≤ maxLen) :
    Calls Try.prog 107 #[.string s] w fun e w' => e = .returned (.bool b) ∧ w = w' := by subst h; exact value_any s w hs

set_option maxRecDepth 100000 in
set_option maxHeartbeats 1600000 in
theorem mayOne_any (w : World) (s : ByteArray) (u : Value) (l : List ByteArray) (h : Strs w u l) :
    Calls Try.prog 89 #[.agg #[.string s, u]] w fun e w' => e = .returned (.bool (mayOneB (s, l))) ∧ Below w.heap.size w w' := by
  have hb0 : Below w.heap.size w (w.alloc (.cells #[.string s, u] 98)) := (Below.refl _ _).alloc (Nat.le_refl _) _
  have hst := h.below hb0 (Nat.le_refl _)
  obtain ⟨A, L, c, rfl, hL, h1, h2, h3⟩ := h.open'
  have h2' := h2
  unfold maxLen at h2
  have HL := Lib.hid hL
  have H3 := Lib.hid h3
  have HST := Lib.hid hst
  have HB := Lib.hid hb0
  clear h hL h3 hst hb0
  cases hn : nameB s.data.toList with
  | false =>
    have Hv := Lib.hid (show mayOneB (s, l) = false by unfold mayOneB; rw [hn]; rfl)
    have HN := Lib.hid hn
    clear hn
    go_enter Try.func89, Try.ntmps89
    go_wp2_with (go_at_call 106; refine (name_is _ false HN.out _).mono ?_; rintro e w' ⟨rfl, rfl⟩)
    refine bodyPost_ret (v := .bool false) (by simp [results, Try.results89, go_sem]) rfl ⟨by rw [Hv.out], HB.out⟩
  | true =>
    have HN := Lib.hid hn
    clear hn
    by_cases h0 : L = 0
    · have Hv := Lib.hid (show mayOneB (s, l) = false by
        unfold mayOneB
        have e : decide (l.length = 0) = true := by rw [decide_eq_true_iff]; have := HL.out; omega
        rw [e]; simp)
      subst h0
      go_enter Try.func89, Try.ntmps89
      go_wp2_with (go_at_call 106; refine (name_is _ true HN.out _).mono ?_; rintro e w' ⟨rfl, rfl⟩)
      refine bodyPost_ret (v := .bool false) (by simp [results, Try.results89, go_sem]) rfl ⟨by rw [Hv.out], HB.out⟩
    · have e0 : ((L : Int) == 0) = false := by simpa using h0
      by_cases h4 : 4 < L
      · have Hv := Lib.hid (show mayOneB (s, l) = false by
          unfold mayOneB
          have e : decide (l.length ≤ 4) = false := by rw [decide_eq_false_iff_not]; have := HL.out; omega
          rw [e]; simp)
        have h4' : (4 : Int) < (L : Int) := by omega
        clear h0
        go_enter Try.func89, Try.ntmps89
        go_wp2_with (go_at_call 106; refine (name_is _ true HN.out _).mono ?_; rintro e w' ⟨rfl, rfl⟩)
        refine bodyPost_ret (v := .bool false) (by simp [results, Try.results89, go_sem]) rfl ⟨by rw [Hv.out], HB.out⟩
      · have h4' : ¬ (4 : Int) < (L : Int) := by omega
        have HV := Lib.hid (show mayOneB (s, l) = okVals l by
          unfold mayOneB
          have e1 : decide (l.length ≤ 4) = true := by (simp; have := HL.out; omega)
          have e2 : decide (l.length = 0) = false := by rw [decide_eq_false_iff_not]; have := HL.out; omega
          rw [HN.out, e1, e2]; rfl)
        clear h0
        go_enter Try.func89, Try.ntmps89
        go_wp2_with (go_at_call 106; refine (name_is _ true HN.out _).mono ?_; rintro e w' ⟨rfl, rfl⟩)
        clear e0 h4 h4'
        go_loop [24] (fun i => ∃ k : Nat, k ≤ L ∧ i = .int .i64 k ∧ Hid ((List.range k).all (fun i => valB (nthS l i).data.toList && !hasS (l.take i) (nthS l i)) = true)) (fun i => L - (intOf i).toNat)
        case atStart => exact ⟨0, Nat.zero_le _, rfl, Lib.hid (by simp)⟩
        case round =>
          obtain ⟨k, hk, rfl, hall⟩ := hrel
          by_cases hlt : k < L
          · obtain ⟨b, off, rfl, hb, hc⟩ := H3.out (by omega)
            have hlb : b < w.heap.size := hb
            have hck := (HB.out.cell (p := ⟨b, off + k, none⟩) hb).trans (hc k hlt).1
            have hsz := (hc k hlt).2
            have hkl : k < l.length := by rw [← HL.out]; exact hlt
            have HT := Lib.hid (HST.out.take (k := k) (by omega))
            have hkc : ¬ (c : Int) < (k : Int) := by omega
            clear hc
            cases h5 : valB (nthS l k).data.toList with
            | false =>
              have Hv := Lib.hid (show mayOneB (s, l) = false by rw [HV.out]; exact range_false hkl (by rw [h5]; rfl))
              have H5 := Lib.hid h5
              clear h5 hkl
              go_wp2_with (go_at_call 107; refine (value_is _ false H5.out _ hsz).mono ?_; rintro e w' ⟨rfl, rfl⟩)
              refine bodyPost_ret (v := .bool false) (by simp [results, Try.results89, go_sem]) rfl ⟨by rw [Hv.out], HB.out⟩
            | true =>
              cases h6 : hasS (l.take k) (nthS l k) with
              | true =>
                have Hv := Lib.hid (show mayOneB (s, l) = false by rw [HV.out]; exact range_false hkl (by rw [h5, h6]; rfl))
                have H5 := Lib.hid h5
                have H6 := Lib.hid h6
                clear h5 h6 hkl
                go_wp2_with (first | (go_at_call 107; refine (value_is _ true H5.out _ hsz).mono ?_; rintro e w' ⟨rfl, rfl⟩) | (go_at_call 42; refine (contains_is _ _ (l.take k) _ HT.out true H6.out).mono ?_; rintro e w' ⟨rfl, rfl⟩))
                refine bodyPost_ret (v := .bool false) (by simp [results, Try.results89, go_sem]) rfl ⟨by rw [Hv.out], HB.out⟩
              | false =>
                have hn : Hid ((List.range (k + 1)).all (fun i => valB (nthS l i).data.toList && !hasS (l.take i) (nthS l i)) = true) := Lib.hid (by rw [range_snoc, hall.out, h5, h6]; rfl)
                have H5 := Lib.hid h5
                have H6 := Lib.hid h6
                clear h5 h6 hkl
                go_wp2_with (first | (go_at_call 107; refine (value_is _ true H5.out _ hsz).mono ?_; rintro e w' ⟨rfl, rfl⟩) | (go_at_call 42; refine (contains_is _ _ (l.take k) _ HT.out false H6.out).mono ?_; rintro e w' ⟨rfl, rfl⟩))
                go_round
                case rel => exact ⟨k + 1, by omega, by go_num, hn⟩
                case measure => simp [intOf]; omega
          · obtain rfl : k = L := by omega
            have Hv := Lib.hid (show mayOneB (s, l) = true by
              have := hall.out
              rw [HL.out] at this
              rw [HV.out]; exact this)
            go_wp2
            refine bodyPost_ret (v := .bool true) (by simp [results, Try.results89, go_sem]) rfl ⟨by rw [Hv.out], HB.out⟩

theorem mayOne_is (w : World) (s : ByteArray) (u : Value) (l : List ByteArray) (h : Strs w u l) (b : Bool) (hb : mayOneB (s, l) = b) :
    Calls Try.prog 89 #[.agg #[.string s, u]] w fun e w' => e = .returned (.bool b) ∧ Below w.heap.size w w' := by subst hb; exact mayOne_any w s u l h

end Go.Proofs.Ytggejmojbebhfaa.Va
