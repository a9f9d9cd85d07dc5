/- The walks of the document's own answers for versions (package cooperref01). -/
import Derived.Test.YtdijkekglaimfaaGreatDoorVerParts
namespace Go.Proofs.YtdijkekglaimfaaGreatDoor.Ver
open Go.RowKit

set_option maxHeartbeats 400000 in
theorem letters_any (s : ByteArray) (w : World) (hs : s.size ≤ maxLen) :
    Calls Tryz.prog 70 #[.string s] w fun e w' => e = .returned (.bool (word s.data.toList)) ∧ w = w' := by
  unfold maxLen at hs
  go_enter Tryz.func70, Tryz.ntmps70
  go_wp2
  go_loop [3] (fun i => ∃ k : Nat, k ≤ s.size ∧ i = .int .i64 k ∧ Hid ((s.data.toList.take k).all letB = true)) (fun i => s.size - (intOf i).toNat)
  case atStart => exact ⟨0, Nat.zero_le _, rfl, Lib.hid (by simp)⟩
  case round =>
    obtain ⟨k, hk, rfl, hall⟩ := hrel
    by_cases hlt : k < s.size
    · by_cases h1 : (s[k].toNat : Int) < 97
      · have hf : word s.data.toList = false := by unfold word; rw [all_false hlt (by simp [letB]; omega)]; rfl
        have Hf := Lib.hid hf
        clear hf
        go_wp2
        go_ret
        exact ⟨by rw [Hf.out]; rfl, rfl⟩
      · by_cases h2 : 122 < (s[k].toNat : Int)
        · have hf : word s.data.toList = false := by unfold word; rw [all_false hlt (by simp [letB]; omega)]; rfl
          have Hf := Lib.hid hf
          clear hf
          go_wp2
          go_ret
          exact ⟨by rw [Hf.out]; rfl, rfl⟩
        · have hn : Hid ((s.data.toList.take (k + 1)).all letB = true) := Lib.hid (by
            rw [take_snoc s k hlt, List.all_append, hall.out]; simp [letB]; omega)
          go_wp2
          go_round
          case rel => exact ⟨k + 1, by omega, by go_num, hn⟩
          case measure => simp [intOf]; omega
    · obtain rfl : k = s.size := by omega
      have hr : word s.data.toList = !s.data.toList.isEmpty := by
        have := hall.out
        rw [List.take_of_length_le (by simp)] at this
        unfold word; rw [this]; rfl
      have Hr := Lib.hid hr
      clear hr
      go_wp2
      go_ret
      exact ⟨by rw [Hr.out, ← Lib.toList_data]; rfl, rfl⟩

set_option maxHeartbeats 400000 in
theorem digits_any (s : ByteArray) (w : World) (hs : s.size ≤ maxLen) :
    Calls Tryz.prog 71 #[.string s] w fun e w' => e = .returned (.bool (digits s.data.toList)) ∧ w = w' := by
  unfold maxLen at hs
  go_enter Tryz.func71, Tryz.ntmps71
  go_wp2
  go_loop [3] (fun i => ∃ k : Nat, k ≤ s.size ∧ i = .int .i64 k ∧ Hid ((s.data.toList.take k).all digB = true)) (fun i => s.size - (intOf i).toNat)
  case atStart => exact ⟨0, Nat.zero_le _, rfl, Lib.hid (by simp)⟩
  case round =>
    obtain ⟨k, hk, rfl, hall⟩ := hrel
    by_cases hlt : k < s.size
    · by_cases h1 : (s[k].toNat : Int) < 48
      · have hf : digits s.data.toList = false := by unfold digits; rw [all_false hlt (by simp [digB]; omega)]; rfl
        have Hf := Lib.hid hf
        clear hf
        go_wp2
        go_ret
        exact ⟨by rw [Hf.out]; rfl, rfl⟩
      · by_cases h2 : 57 < (s[k].toNat : Int)
        · have hf : digits s.data.toList = false := by unfold digits; rw [all_false hlt (by simp [digB]; omega)]; rfl
          have Hf := Lib.hid hf
          clear hf
          go_wp2
          go_ret
          exact ⟨by rw [Hf.out]; rfl, rfl⟩
        · have hn : Hid ((s.data.toList.take (k + 1)).all digB = true) := Lib.hid (by
            rw [take_snoc s k hlt, List.all_append, hall.out]; simp [digB]; omega)
          go_wp2
          go_round
          case rel => exact ⟨k + 1, by omega, by go_num, hn⟩
          case measure => simp [intOf]; omega
    · obtain rfl : k = s.size := by omega
      have hr : digits s.data.toList = !s.data.toList.isEmpty := by
        have := hall.out
        rw [List.take_of_length_le (by simp)] at this
        unfold digits; rw [this]; rfl
      have Hr := Lib.hid hr
      clear hr
      go_wp2
      go_ret
      exact ⟨by rw [Hr.out, ← Lib.toList_data]; rfl, rfl⟩

theorem letters_is (s : ByteArray) (b : Bool) (h : word s.data.toList = b) (w : World) (hs : s.size ≤ maxLen) :
    Calls Tryz.prog 70 #[.string s] w fun e w' => e = .returned (.bool b) ∧ w = w' := by subst h; exact letters_any s w hs
theorem digits_is (s : ByteArray) (b : Bool) (h : digits s.data.toList = b) (w : World) (hs : s.size ≤ maxLen) :
    Calls Tryz.prog 71 #[.string s] w fun e w' => e = .returned (.bool b) ∧ w = w' := by subst h; exact digits_any s w hs

set_option maxHeartbeats 800000 in
theorem refPart_any (s : ByteArray) (w : World) (hs : s.size ≤ maxLen) :
    Calls Tryz.prog 49 #[.string s] w fun e w' => e = .returned (.bool (part s.data.toList)) ∧ w = w' := by
  cases hw : word s.data.toList with
  | true =>
    have Hp := Lib.hid (show part s.data.toList = true by unfold part; rw [hw]; rfl)
    have Hw := Lib.hid hw
    clear hw
    go_enter Tryz.func49, Tryz.ntmps49
    go_wp2_with fail
    refine (letters_is s true Hw.out _ hs).mono ?_
    rintro e w' ⟨rfl, rfl⟩
    go_wp2
    go_ret
    exact ⟨by rw [Hp.out]; rfl, rfl⟩
  | false =>
    have hp : part s.data.toList = number s.data.toList := by unfold part; rw [hw]; rfl
    have Hw := Lib.hid hw
    clear hw
    cases hd : digits s.data.toList with
    | false =>
      have Hp := Lib.hid (show part s.data.toList = false by rw [hp]; unfold number; rw [hd]; rfl)
      have Hd := Lib.hid hd
      clear hp hd
      go_enter Tryz.func49, Tryz.ntmps49
      go_wp2_with fail
      refine (letters_is s false Hw.out _ hs).mono ?_
      rintro e w' ⟨rfl, rfl⟩
      go_wp2_with fail
      refine (digits_is s false Hd.out _ hs).mono ?_
      rintro e w' ⟨rfl, rfl⟩
      go_wp2
      go_ret
      exact ⟨by rw [Hp.out]; rfl, rfl⟩
    | true =>
      have hpos : 0 < s.size := by
        unfold digits at hd
        rw [Bool.and_eq_true] at hd
        have := hd.2
        rw [← size_toList]
        cases h : s.data.toList with
        | nil => rw [h] at this; simp at this
        | cons a b => simp
      have e4 : s.data.toList.head? = some s[0] := by rw [List.head?_eq_getElem?]; exact get_toList s 0 hpos
      have hr : part s.data.toList = (decide (s.size ≤ 9) && (s.data.toList == [48] || !(some s[0] == some (48 : UInt8)))) := by
        rw [hp]; unfold number; rw [hd, size_toList, e4]; rfl
      have Hd := Lib.hid hd
      clear hp hd e4
      by_cases h9 : s.size ≤ 9
      · have d9 : decide (s.size ≤ 9) = true := by simpa using h9
        have e6 : (s.size : Int) ≤ 9 := by omega
        rw [d9, Bool.true_and] at hr
        by_cases h0 : s.data.toList = [48]
        · have Hp := Lib.hid (show part s.data.toList = true by rw [hr, h0]; rfl)
          have e1 : (s.toList == [48]) = true := by rw [Lib.toList_data, h0]; rfl
          clear hr h0 d9 h9
          go_enter Tryz.func49, Tryz.ntmps49
          go_wp2_with fail
          refine (letters_is s false Hw.out _ hs).mono ?_
          rintro e w' ⟨rfl, rfl⟩
          go_wp2_with fail
          refine (digits_is s true Hd.out _ hs).mono ?_
          rintro e w' ⟨rfl, rfl⟩
          go_wp2
          go_ret
          exact ⟨by rw [Hp.out]; rfl, rfl⟩
        · have e1 : (s.toList == [48]) = false := by rw [Lib.toList_data]; simpa using h0
          have e1' : ¬ s.toList = [48] := by rw [Lib.toList_data]; exact h0
          have e1'' : (s.data.toList == [48]) = false := by simpa using h0
          rw [e1'', Bool.false_or] at hr
          by_cases h48 : s[0] = 48
          · have Hp := Lib.hid (show part s.data.toList = false by rw [hr, h48]; rfl)
            have e5 : ((s[0].toNat : Int) != 48) = false := by rw [h48]; rfl
            clear hr h0 d9 h9 e1'' h48
            go_enter Tryz.func49, Tryz.ntmps49
            go_wp2_with fail
            refine (letters_is s false Hw.out _ hs).mono ?_
            rintro e w' ⟨rfl, rfl⟩
            go_wp2_with fail
            refine (digits_is s true Hd.out _ hs).mono ?_
            rintro e w' ⟨rfl, rfl⟩
            go_wp2
            go_ret
            exact ⟨by rw [Hp.out]; rfl, rfl⟩
          · have Hp := Lib.hid (show part s.data.toList = true by rw [hr]; simp [h48])
            have e5 : ((s[0].toNat : Int) != 48) = true := by
              rw [bne_iff_ne]; intro c; apply h48; apply UInt8.toNat_inj.1; have : (48 : UInt8).toNat = 48 := rfl; omega
            clear hr h0 d9 h9 e1'' h48
            go_enter Tryz.func49, Tryz.ntmps49
            go_wp2_with fail
            refine (letters_is s false Hw.out _ hs).mono ?_
            rintro e w' ⟨rfl, rfl⟩
            go_wp2_with fail
            refine (digits_is s true Hd.out _ hs).mono ?_
            rintro e w' ⟨rfl, rfl⟩
            go_wp2
            go_ret
            exact ⟨by rw [Hp.out]; rfl, rfl⟩
      · have Hp := Lib.hid (show part s.data.toList = false by rw [hr]; simp [h9])
        have e6 : ¬ (s.size : Int) ≤ 9 := by omega
        clear hr h9
        go_enter Tryz.func49, Tryz.ntmps49
        go_wp2_with fail
        refine (letters_is s false Hw.out _ hs).mono ?_
        rintro e w' ⟨rfl, rfl⟩
        go_wp2_with fail
        refine (digits_is s true Hd.out _ hs).mono ?_
        rintro e w' ⟨rfl, rfl⟩
        go_wp2
        go_ret
        exact ⟨by rw [Hp.out]; rfl, rfl⟩

/-! ### Cut. -/
def glue (p : Bs) : List Bs → List Bs
  | [] => [p]
  | q :: qs => (p ++ q) :: qs
theorem glue_nil {l : List Bs} (h : l ≠ []) : glue [] l = l := by cases l with | nil => exact absurd rfl h | cons q qs => rfl
theorem cut_other {c d : UInt8} (h : d ≠ c) (r : Bs) : cut c (d :: r) = glue [d] (cut c r) := by
  rw [cut, if_neg (by simpa using h)]
  cases cut c r <;> rfl
theorem cut_same (c : UInt8) (r : Bs) : cut c (c :: r) = [] :: cut c r := by rw [cut, if_pos (by simp)]
theorem glue_glue (p q : Bs) (l : List Bs) (_h : l ≠ []) : glue p (glue q l) = glue (p ++ q) l := by
  cases l with | nil => rfl | cons a b => simp [glue]

theorem seg_toList (s : ByteArray) (f i : Nat) (_h : i ≤ s.size) : (s.extract f i).data.toList = (s.data.toList.take i).drop f := by
  rw [ByteArray.data_extract]; simp [Array.toList_extract, List.extract_eq_take_drop]
  rw [List.drop_take]
theorem seg_snoc (s : ByteArray) (f i : Nat) (h1 : f ≤ i) (h : i < s.size) : (s.extract f (i + 1)).data.toList = (s.extract f i).data.toList ++ [s[i]] := by
  rw [seg_toList s f (i + 1) h, seg_toList s f i (by omega), take_snoc s i h, List.drop_append_of_le_length (by simp; omega)]
theorem seg_self (s : ByteArray) (i : Nat) (h : i ≤ s.size) : (s.extract i i).data.toList = [] := by
  rw [seg_toList s i i h]; simp
theorem drop_at (s : ByteArray) (i : Nat) (h : i < s.size) : s.data.toList.drop i = s[i] :: s.data.toList.drop (i + 1) := by
  rw [List.drop_eq_getElem_cons (by simpa using h)]; rfl

end Go.Proofs.YtdijkekglaimfaaGreatDoor.Ver
