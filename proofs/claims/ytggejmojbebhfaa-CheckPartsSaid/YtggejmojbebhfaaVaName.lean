/- The walks of Name and Value, the program's and the document's. -/
import Derived.Test.YtggejmojbebhfaaRows
import Derived.Test.YtggejmojbebhfaaKit
import Derived.Test.YtggejmojbebhfaaVaMath
namespace Go.Proofs.Ytggejmojbebhfaa.Va
open Go.RowKit

theorem isLetter_any (c : Int) (w : World) :
    Calls Try.prog 124 #[.int .u8 c] w fun e w' => e = .returned (.bool (decide (97 ≤ c) && decide (c ≤ 122))) ∧ w = w' := by
  by_cases h1 : 97 ≤ c
  · by_cases h2 : c ≤ 122
    all_goals
      go_enter Try.func124, Try.ntmps124
      go_wp2
      go_ret
      refine ⟨?_, rfl⟩
      simp [h1, h2]
  · have : c < 97 := by omega
    go_enter Try.func124, Try.ntmps124
    go_wp2
    go_ret
    refine ⟨?_, rfl⟩
    simp; omega

theorem isDigit_any (c : Int) (w : World) :
    Calls Try.prog 125 #[.int .u8 c] w fun e w' => e = .returned (.bool (decide (48 ≤ c) && decide (c ≤ 57))) ∧ w = w' := by
  by_cases h1 : 48 ≤ c
  · by_cases h2 : c ≤ 57
    all_goals
      go_enter Try.func125, Try.ntmps125
      go_wp2
      go_ret
      refine ⟨?_, rfl⟩
      simp [h1, h2]
  · have : c < 48 := by omega
    go_enter Try.func125, Try.ntmps125
    go_wp2
    go_ret
    refine ⟨?_, rfl⟩
    simp; omega

theorem isLetter_is (c : UInt8) (b : Bool) (h : letB c = b) (w : World) :
    Calls Try.prog 124 #[.int .u8 (c.toNat : Int)] w fun e w' => e = .returned (.bool b) ∧ w = w' := by
  subst h; exact isLetter_any _ w
theorem isDigit_is (c : UInt8) (b : Bool) (h : digB c = b) (w : World) :
    Calls Try.prog 125 #[.int .u8 (c.toNat : Int)] w fun e w' => e = .returned (.bool b) ∧ w = w' := by
  subst h; exact isDigit_any _ w

theorem name_false {l : Bs} (h : l.all okB = false) : nameB l = false := by unfold nameB; rw [h]; simp

set_option maxHeartbeats 1000000 in
theorem name_any (s : ByteArray) (w : World) :
    Calls Try.prog 106 #[.string s] w fun e w' => e = .returned (.bool (nameB s.data.toList)) ∧ w = w' := by
  have hlen : s.data.toList.length = s.size := by simp
  by_cases h0 : s.size = 0
  · have hl : s.data.toList = [] := List.eq_nil_of_length_eq_zero (by omega)
    have hl2 : s.toList = [] := by rw [Lib.toList_data]; exact hl
    have hv := Lib.hid (show nameB s.data.toList = false by rw [hl]; rfl)
    clear hl hlen h0
    go_enter Try.func106, Try.ntmps106
    go_wp2
    go_ret
    exact ⟨by rw [hv.out]; rfl, rfl⟩
  · have hne : ¬ s.toList = [] := by rw [Lib.toList_data]; intro e; rw [e] at hlen; simp at hlen; omega
    have hne2 : s.toList.isEmpty = false := by simpa using hne
    have hpos : 0 < s.size := by omega
    by_cases h24 : 24 < s.size
    · have h24' : (24 : Int) < (s.size : Int) := by omega
      have hv := Lib.hid (show nameB s.data.toList = false by unfold nameB; rw [hlen]; have : decide (s.size ≤ 24) = false := by simpa using h24
                                                              rw [this]; simp)
      clear hlen h0
      go_enter Try.func106, Try.ntmps106
      go_wp2
      go_ret
      exact ⟨by rw [hv.out]; rfl, rfl⟩
    · have h24' : ¬ (24 : Int) < (s.size : Int) := by omega
      have hle : decide (s.data.toList.length ≤ 24) = true := by simp; omega
      have hem : s.data.toList.isEmpty = false := by rw [← Lib.toList_data]; exact hne2
      have hhead := head_get hpos
      cases hb : letB s[0] with
      | false =>
        have hv := Lib.hid (show nameB s.data.toList = false by unfold nameB; rw [hhead, hb]; simp)
        have HB := Lib.hid hb
        clear hlen h0 hle hem hhead hb
        go_enter Try.func106, Try.ntmps106
        go_wp2_with (go_at_call 124; refine (isLetter_is _ false HB.out _).mono ?_; rintro e w' ⟨rfl, rfl⟩)
        go_ret
        exact ⟨by rw [hv.out]; rfl, rfl⟩
      | true =>
        have HV := Lib.hid (show nameB s.data.toList = s.data.toList.all okB by unfold nameB; rw [hhead, hb, hle, hem]; rfl)
        have HB := Lib.hid hb
        clear hlen h0 hle hem hhead hb
        go_enter Try.func106, Try.ntmps106
        go_wp2_with (go_at_call 124; refine (isLetter_is _ true HB.out _).mono ?_; rintro e w' ⟨rfl, rfl⟩)
        go_loop [19] (fun i => ∃ k : Nat, k ≤ s.size ∧ i = .int .i64 k ∧ Hid ((s.data.toList.take k).all okB = true)) (fun i => s.size - (intOf i).toNat)
        case atStart => exact ⟨0, Nat.zero_le _, rfl, Lib.hid (by simp)⟩
        case round =>
          obtain ⟨k, hk, rfl, hall⟩ := hrel
          by_cases hlt : k < s.size
          · have hn : okB s[k] = true → Hid ((s.data.toList.take (k + 1)).all okB = true) := fun ho => Lib.hid (by
              rw [take_snoc s k hlt, List.all_append, hall.out]; simp [ho])
            cases h1 : letB s[k] with
            | true =>
              have hn := hn (by unfold okB; rw [h1]; rfl)
              have H1 := Lib.hid h1
              clear h1
              go_wp2_with (go_at_call 124; refine (isLetter_is _ true H1.out _).mono ?_; rintro e w' ⟨rfl, rfl⟩)
              go_round
              case rel => exact ⟨k + 1, by omega, by go_num, hn⟩
              case measure => simp [intOf]; omega
            | false =>
              cases h2 : digB s[k] with
              | true =>
                have hn := hn (by unfold okB; rw [h1, h2]; rfl)
                have H1 := Lib.hid h1
                have H2 := Lib.hid h2
                clear h1 h2
                go_wp2_with (first | (go_at_call 124; refine (isLetter_is _ false H1.out _).mono ?_; rintro e w' ⟨rfl, rfl⟩) | (go_at_call 125; refine (isDigit_is _ true H2.out _).mono ?_; rintro e w' ⟨rfl, rfl⟩))
                go_round
                case rel => exact ⟨k + 1, by omega, by go_num, hn⟩
                case measure => simp [intOf]; omega
              | false =>
                have H1 := Lib.hid h1
                have H2 := Lib.hid h2
                by_cases h3 : (s[k].toNat : Int) = 45
                · have hn := hn (by unfold okB; rw [h1, h2]; simp [h3])
                  have e3 : ((s[k].toNat : Int) != 45) = false := by simpa using h3
                  clear h1 h2 h3
                  go_wp2_with (first | (go_at_call 124; refine (isLetter_is _ false H1.out _).mono ?_; rintro e w' ⟨rfl, rfl⟩) | (go_at_call 125; refine (isDigit_is _ false H2.out _).mono ?_; rintro e w' ⟨rfl, rfl⟩))
                  go_round
                  case rel => exact ⟨k + 1, by omega, by go_num, hn⟩
                  case measure => simp [intOf]; omega
                · have hf := all_false (p := okB) hlt (by unfold okB; rw [h1, h2]; simp [h3])
                  have hv := Lib.hid (HV.out.trans hf)
                  have e3 : ((s[k].toNat : Int) != 45) = true := by simpa using h3
                  clear h1 h2 h3 hf hn
                  go_wp2_with (first | (go_at_call 124; refine (isLetter_is _ false H1.out _).mono ?_; rintro e w' ⟨rfl, rfl⟩) | (go_at_call 125; refine (isDigit_is _ false H2.out _).mono ?_; rintro e w' ⟨rfl, rfl⟩))
                  go_ret
                  exact ⟨by rw [hv.out]; rfl, rfl⟩
          · obtain rfl : k = s.size := by omega
            have hv := Lib.hid (show nameB s.data.toList = true by
              have := hall.out
              rw [List.take_of_length_le (by simp)] at this
              rw [HV.out]; exact this)
            go_wp2
            go_ret
            exact ⟨by rw [hv.out]; rfl, rfl⟩

set_option maxHeartbeats 1000000 in
theorem isNumber_any (s : ByteArray) (w : World) (hs : s.size ≤ maxLen) :
    Calls Try.prog 126 #[.string s] w fun e w' => e = .returned (.bool (numB s.data.toList)) ∧ w = w' := by
  unfold maxLen at hs
  go_enter Try.func126, Try.ntmps126
  go_wp2
  go_loop [6] (fun i => ∃ k : Nat, k ≤ s.size ∧ i = .int .i64 k ∧ Hid ((s.data.toList.take k).all digB = true)) (fun i => s.size - (intOf i).toNat)
  case atStart => exact ⟨0, Nat.zero_le _, rfl, Lib.hid (by simp)⟩
  case round =>
    obtain ⟨k, hk, rfl, hall⟩ := hrel
    by_cases hlt : k < s.size
    · cases h1 : digB s[k] with
      | true =>
        have hn : Hid ((s.data.toList.take (k + 1)).all digB = true) := Lib.hid (by
          rw [take_snoc s k hlt, List.all_append, hall.out]; simp [h1])
        have H1 := Lib.hid h1
        clear h1
        go_wp2_with (go_at_call 125; refine (isDigit_is _ true H1.out _).mono ?_; rintro e w' ⟨rfl, rfl⟩)
        go_round
        case rel => exact ⟨k + 1, by omega, by go_num, hn⟩
        case measure => simp [intOf]; omega
      | false =>
        have hf := all_false (p := digB) hlt h1
        have hv := Lib.hid (show numB s.data.toList = false by unfold numB digits; rw [hf]; rfl)
        have H1 := Lib.hid h1
        clear h1 hf
        go_wp2_with (go_at_call 125; refine (isDigit_is _ false H1.out _).mono ?_; rintro e w' ⟨rfl, rfl⟩)
        go_ret
        exact ⟨by rw [hv.out]; rfl, rfl⟩
    · obtain rfl : k = s.size := by omega
      have hr : numB s.data.toList = (!s.toList.isEmpty && decide (s.size ≤ 3)) := by
        have := hall.out
        rw [List.take_of_length_le (by simp)] at this
        unfold numB digits; rw [this, Lib.toList_data]
        have : s.data.toList.length = s.size := by simp
        rw [this]; rfl
      have Hr := Lib.hid hr
      clear hr
      by_cases he : s.toList = []
      · have he2 : s.toList.isEmpty = true := by rw [he]; rfl
        have hv := Lib.hid (show numB s.data.toList = false by rw [Hr.out, he2]; rfl)
        clear he2
        go_wp2
        go_ret
        exact ⟨by rw [hv.out]; rfl, rfl⟩
      · have he2 : s.toList.isEmpty = false := by simpa using he
        by_cases h3 : s.size ≤ 3
        · have hv := Lib.hid (show numB s.data.toList = true by rw [Hr.out, he2]; simp [h3])
          have h3' : (s.size : Int) ≤ 3 := by omega
          go_wp2
          go_ret
          exact ⟨by rw [hv.out]; rfl, rfl⟩
        · have hv := Lib.hid (show numB s.data.toList = false by rw [Hr.out, he2]; simp [h3])
          have h3' : ¬ (s.size : Int) ≤ 3 := by omega
          go_wp2
          go_ret
          exact ⟨by rw [hv.out]; rfl, rfl⟩

theorem name_is (s : ByteArray) (b : Bool) (h : nameB s.data.toList = b) (w : World) :
    Calls Try.prog 106 #[.string s] w fun e w' => e = .returned (.bool b) ∧ w = w' := by
  subst h; exact name_any s w
theorem isNumber_is (s : ByteArray) (b : Bool) (h : numB s.data.toList = b) (w : World) (hs : s.size ≤ maxLen) :
    Calls Try.prog 126 #[.string s] w fun e w' => e = .returned (.bool b) ∧ w = w' := by
  subst h; exact isNumber_any s w hs

theorem value_any (s : ByteArray) (w : World) (hs : s.size ≤ maxLen) :
    Calls Try.prog 107 #[.string s] w fun e w' => e = .returned (.bool (valB s.data.toList)) ∧ w = w' := by
  cases h1 : nameB s.data.toList with
  | true =>
    have hv := Lib.hid (show valB s.data.toList = true by unfold valB; rw [h1]; rfl)
    have H1 := Lib.hid h1
    clear h1
    go_enter Try.func107, Try.ntmps107
    go_wp2_with (go_at_call 106; refine (name_is _ true H1.out _).mono ?_; rintro e w' ⟨rfl, rfl⟩)
    go_ret
    exact ⟨by rw [hv.out]; rfl, rfl⟩
  | false =>
    obtain ⟨b, h2⟩ : ∃ b, numB s.data.toList = b := ⟨_, rfl⟩
    have hv := Lib.hid (show valB s.data.toList = b by unfold valB; rw [h1, h2]; rfl)
    have H1 := Lib.hid h1
    have H2 := Lib.hid h2
    clear h1 h2
    go_enter Try.func107, Try.ntmps107
    go_wp2_with (first | (go_at_call 106; refine (name_is _ false H1.out _).mono ?_; rintro e w' ⟨rfl, rfl⟩) | (go_at_call 126; refine (isNumber_is _ b H2.out _ hs).mono ?_; rintro e w' ⟨rfl, rfl⟩))
    go_ret
    exact ⟨by rw [hv.out]; rfl, rfl⟩

end Go.Proofs.Ytggejmojbebhfaa.Va
