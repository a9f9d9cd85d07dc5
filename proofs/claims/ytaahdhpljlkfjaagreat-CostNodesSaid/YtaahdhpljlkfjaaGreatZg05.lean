/- The walks of Name and Value, the program's and the document's. -/
import Derived.Test.YtaahdhpljlkfjaaGreatRows
import Derived.Test.YtaahdhpljlkfjaaGreatZg01
import Derived.Test.YtaahdhpljlkfjaaGreatZg02
namespace Go.Proofs.YtaahdhpljlkfjaaGreat.Va
open Go.RowKit

theorem name_false {l : Bs} (h : l.all okB = false) : nameB l = false := by unfold nameB; rw [h]; simp

end Go.Proofs.YtaahdhpljlkfjaaGreat.Va

/- The walks of Name, Digits and Value of the document. -/
namespace Go.Proofs.YtaahdhpljlkfjaaGreat.Va
open Go.RowKit

set_option maxHeartbeats 400000 in
theorem digits_any (s : ByteArray) (w : World) (hs : s.size ≤ maxLen) :
    Calls Tryz.prog 105 #[.string s] w fun e w' => e = .returned (.bool (digits s.data.toList)) ∧ w = w' := by
  unfold maxLen at hs
  go_enter Tryz.func105, Tryz.ntmps105
  go_wp2
  go_loop [3] (fun i => ∃ k : Nat, k ≤ s.size ∧ i = .int .i64 k ∧ Hid ((s.data.toList.take k).all digB = true)) (fun i => s.size - (RowKit.intOf i).toNat)
  case atStart => exact ⟨0, Nat.zero_le _, rfl, Lib.hid (by simp)⟩
  case round =>
    obtain ⟨k, hk, rfl, hall⟩ := hrel
    by_cases hlt : k < s.size
    · by_cases h1 : (s[k].toNat : Int) < 48
      · have hf : digits s.data.toList = false := by unfold digits; rw [all_false hlt (by simp [digB]; omega)]; rfl
        have Hf := Lib.hid hf
        clear hf
        go_wp2
        go_ret
        exact ⟨by rw [Hf.out]; rfl, rfl⟩
      · by_cases h2 : 57 < (s[k].toNat : Int)
        · have hf : digits s.data.toList = false := by unfold digits; rw [all_false hlt (by simp [digB]; omega)]; rfl
          have Hf := Lib.hid hf
          clear hf
          go_wp2
          go_ret
          exact ⟨by rw [Hf.out]; rfl, rfl⟩
        · have hn : Hid ((s.data.toList.take (k + 1)).all digB = true) := Lib.hid (by
            rw [take_snoc s k hlt, List.all_append, hall.out]; simp [digB]; omega)
          go_wp2
          go_round
          case rel => exact ⟨k + 1, by omega, by go_num, hn⟩
          case measure => simp [RowKit.intOf]; omega
    · obtain rfl : k = s.size := by omega
      have hr : digits s.data.toList = !s.data.toList.isEmpty := by
        have := hall.out
        rw [List.take_of_length_le (by simp)] at this
        unfold digits; rw [this]; rfl
      have Hr := Lib.hid hr
      clear hr
      go_wp2
      go_ret
      exact ⟨by rw [Hr.out, ← Lib.toList_data]; rfl, rfl⟩

theorem digits_is (s : ByteArray) (b : Bool) (h : digits s.data.toList = b) (w : World) (hs : s.size ≤ maxLen) :
    Calls Tryz.prog 105 #[.string s] w fun e w' => e = .returned (.bool b) ∧ w = w' := by subst h; exact digits_any s w hs

set_option maxHeartbeats 1000000 in
theorem refName_any (s : ByteArray) (w : World) :
    Calls Tryz.prog 89 #[.string s] w fun e w' => e = .returned (.bool (nameB s.data.toList)) ∧ w = w' := by
  have hlen : s.data.toList.length = s.size := by simp
  by_cases h0 : s.size = 0
  · have hl : s.data.toList = [] := List.eq_nil_of_length_eq_zero (by omega)
    have hl2 : s.toList = [] := by rw [Lib.toList_data]; exact hl
    have hv := Lib.hid (show nameB s.data.toList = false by rw [hl]; rfl)
    clear hl hlen h0
    go_enter Tryz.func89, Tryz.ntmps89
    go_wp2
    go_ret
    exact ⟨by rw [hv.out]; rfl, rfl⟩
  · have hne : ¬ s.toList = [] := by rw [Lib.toList_data]; intro e; rw [e] at hlen; simp at hlen; omega
    have hne2 : s.toList.isEmpty = false := by simpa using hne
    have hpos : 0 < s.size := by omega
    by_cases h24 : 24 < s.size
    · have h24' : (24 : Int) < (s.size : Int) := by omega
      have hv := Lib.hid (show nameB s.data.toList = false by unfold nameB; rw [hlen]; have : decide (s.size ≤ 24) = false := by simpa using h24
                                                              rw [this]; simp)
      clear hlen h0
      go_enter Tryz.func89, Tryz.ntmps89
      go_wp2
      go_ret
      exact ⟨by rw [hv.out]; rfl, rfl⟩
    · have h24' : ¬ (24 : Int) < (s.size : Int) := by omega
      have hle : decide (s.data.toList.length ≤ 24) = true := by simp; omega
      have hem : s.data.toList.isEmpty = false := by rw [← Lib.toList_data]; exact hne2
      have hhead := head_get hpos
      by_cases hb1 : (s[0].toNat : Int) < 97
      · have hv := Lib.hid (show nameB s.data.toList = false by unfold nameB; rw [hhead]; have : letB s[0] = false := by (simp [letB]; omega)
                                                                rw [this]; simp)
        clear hlen h0 hle hem hhead
        go_enter Tryz.func89, Tryz.ntmps89
        go_wp2
        go_ret
        exact ⟨by rw [hv.out]; rfl, rfl⟩
      · by_cases hb2 : (122 < (s[0].toNat : Int))
        · have hv := Lib.hid (show nameB s.data.toList = false by unfold nameB; rw [hhead]; have : letB s[0] = false := by (simp [letB]; omega)
                                                                  rw [this]; simp)
          clear hlen h0 hle hem hhead
          go_enter Tryz.func89, Tryz.ntmps89
          go_wp2
          go_ret
          exact ⟨by rw [hv.out]; rfl, rfl⟩
        · have HV := Lib.hid (show nameB s.data.toList = s.data.toList.all okB by
            unfold nameB; rw [hhead, hle, hem]; have : letB s[0] = true := by (simp [letB]; omega)
            rw [this]; rfl)
          clear hlen h0 hle hem hhead
          go_enter Tryz.func89, Tryz.ntmps89
          go_wp2
          clear hb1 hb2
          go_loop [3] (fun i => ∃ k : Nat, k ≤ s.size ∧ i = .int .i64 k ∧ Hid ((s.data.toList.take k).all okB = true)) (fun i => s.size - (RowKit.intOf i).toNat)
          case atStart => exact ⟨0, Nat.zero_le _, rfl, Lib.hid (by simp)⟩
          case round =>
            obtain ⟨k, hk, rfl, hall⟩ := hrel
            by_cases hlt : k < s.size
            · have hn : okB s[k] = true → Hid ((s.data.toList.take (k + 1)).all okB = true) := fun ho => Lib.hid (by
                rw [take_snoc s k hlt, List.all_append, hall.out]; simp [ho])
              have hb : okB s[k] = false → Hid (nameB s.data.toList = false) := fun ho => Lib.hid (HV.out.trans (all_false (p := okB) hlt ho))
              by_cases hok : okB s[k] = true
              · have hn := hn hok
                have hor : (97 ≤ (s[k].toNat : Int) ∧ (s[k].toNat : Int) ≤ 122) ∨ (48 ≤ (s[k].toNat : Int) ∧ (s[k].toNat : Int) ≤ 57) ∨ (s[k].toNat : Int) = 45 := by
                  simp [okB, letB, digB] at hok; omega
                clear hok hb
                rcases hor with ⟨h1, h2⟩ | ⟨h1, h2⟩ | h1
                · go_wp2
                  go_round
                  case rel => exact ⟨k + 1, by omega, by go_num, hn⟩
                  case measure => simp [RowKit.intOf]; omega
                · have h3 : ¬ 97 ≤ (s[k].toNat : Int) := by omega
                  go_wp2
                  go_round
                  case rel => exact ⟨k + 1, by omega, by go_num, hn⟩
                  case measure => simp [RowKit.intOf]; omega
                · have h3 : ¬ 97 ≤ (s[k].toNat : Int) := by omega
                  have h4 : ¬ 48 ≤ (s[k].toNat : Int) := by omega
                  have h5 : ((s[k].toNat : Int) == 45) = true := by simpa using h1
                  clear h1
                  go_wp2
                  go_round
                  case rel => exact ⟨k + 1, by omega, by go_num, hn⟩
                  case measure => simp [RowKit.intOf]; omega
              · have hv := hb (by simpa using hok)
                have hnor : ¬ (97 ≤ (s[k].toNat : Int) ∧ (s[k].toNat : Int) ≤ 122) ∧ ¬ (48 ≤ (s[k].toNat : Int) ∧ (s[k].toNat : Int) ≤ 57) ∧ (s[k].toNat : Int) ≠ 45 := by
                  simp [okB, letB, digB] at hok; omega
                clear hok hb hn
                obtain ⟨n1, n2, n3⟩ := hnor
                have h5 : ((s[k].toNat : Int) == 45) = false := by simpa using n3
                clear n3
                by_cases h1 : 97 ≤ (s[k].toNat : Int)
                · have h2 : ¬ (s[k].toNat : Int) ≤ 122 := by omega
                  have h3 : 48 ≤ (s[k].toNat : Int) := by omega
                  have h4 : ¬ (s[k].toNat : Int) ≤ 57 := by omega
                  clear n1 n2
                  go_wp2
                  go_ret
                  exact ⟨by rw [hv.out]; rfl, rfl⟩
                · by_cases h2 : 48 ≤ (s[k].toNat : Int)
                  · have h3 : ¬ (s[k].toNat : Int) ≤ 57 := by omega
                    clear n1 n2
                    go_wp2
                    go_ret
                    exact ⟨by rw [hv.out]; rfl, rfl⟩
                  · clear n1 n2
                    go_wp2
                    go_ret
                    exact ⟨by rw [hv.out]; rfl, rfl⟩
            · obtain rfl : k = s.size := by omega
              have hv := Lib.hid (show nameB s.data.toList = true by
                have := hall.out
                rw [List.take_of_length_le (by simp)] at this
                rw [HV.out]; exact this)
              go_wp2
              go_ret
              exact ⟨by rw [hv.out]; rfl, rfl⟩

theorem refName_is (s : ByteArray) (b : Bool) (h : nameB s.data.toList = b) (w : World) :
    Calls Tryz.prog 89 #[.string s] w fun e w' => e = .returned (.bool b) ∧ w = w' := by
  subst h; exact refName_any s w

theorem refValue_any (s : ByteArray) (w : World) (hs : s.size ≤ maxLen) :
    Calls Tryz.prog 90 #[.string s] w fun e w' => e = .returned (.bool (valB s.data.toList)) ∧ w = w' := by
  have hlen : s.data.toList.length = s.size := by simp
  cases h1 : nameB s.data.toList with
  | true =>
    have hv := Lib.hid (show valB s.data.toList = true by unfold valB; rw [h1]; rfl)
    have H1 := Lib.hid h1
    clear h1 hlen
    go_enter Tryz.func90, Tryz.ntmps90
    go_wp2_with (go_at_call 89; refine (refName_is _ true H1.out _).mono ?_; rintro e w' ⟨rfl, rfl⟩)
    go_ret
    exact ⟨by rw [hv.out]; rfl, rfl⟩
  | false =>
    cases h2 : digits s.data.toList with
    | false =>
      have hv := Lib.hid (show valB s.data.toList = false by unfold valB numB; rw [h1, h2]; rfl)
      have H1 := Lib.hid h1
      have H2 := Lib.hid h2
      clear h1 h2 hlen
      go_enter Tryz.func90, Tryz.ntmps90
      go_wp2_with (first | (go_at_call 89; refine (refName_is _ false H1.out _).mono ?_; rintro e w' ⟨rfl, rfl⟩) | (go_at_call 105; refine (digits_is _ false H2.out _ hs).mono ?_; rintro e w' ⟨rfl, rfl⟩))
      go_ret
      exact ⟨by rw [hv.out]; rfl, rfl⟩
    | true =>
      by_cases h3 : s.size ≤ 3
      · have hv := Lib.hid (show valB s.data.toList = true by unfold valB numB; rw [h1, h2, hlen]; simp [h3])
        have h3' : (s.size : Int) ≤ 3 := by omega
        have H1 := Lib.hid h1
        have H2 := Lib.hid h2
        clear h1 h2 hlen
        go_enter Tryz.func90, Tryz.ntmps90
        go_wp2_with (first | (go_at_call 89; refine (refName_is _ false H1.out _).mono ?_; rintro e w' ⟨rfl, rfl⟩) | (go_at_call 105; refine (digits_is _ true H2.out _ hs).mono ?_; rintro e w' ⟨rfl, rfl⟩))
        go_ret
        exact ⟨by rw [hv.out]; rfl, rfl⟩
      · have hv := Lib.hid (show valB s.data.toList = false by unfold valB numB; rw [h1, h2, hlen]; simp; omega)
        have h3' : decide ((s.size : Int) ≤ 3) = false := by simp; omega
        have H1 := Lib.hid h1
        have H2 := Lib.hid h2
        clear h1 h2 hlen
        go_enter Tryz.func90, Tryz.ntmps90
        go_wp2_with (first | (go_at_call 89; refine (refName_is _ false H1.out _).mono ?_; rintro e w' ⟨rfl, rfl⟩) | (go_at_call 105; refine (digits_is _ true H2.out _ hs).mono ?_; rintro e w' ⟨rfl, rfl⟩))
        go_ret
        exact ⟨by rw [hv.out]; rfl, rfl⟩

end Go.Proofs.YtaahdhpljlkfjaaGreat.Va
