/- Walks over texts: words and numbers (package version). -/
import Derived.Test.YtdijkekglaimfaaGreatDoorRows
import Derived.Test.YtdijkekglaimfaaGreatDoorShelf
import Derived.Test.YtdijkekglaimfaaGreatDoorVerMath
import Derived.Test.YtdijkekglaimfaaGreatDoorKit
import Derived.Lib.Strings
namespace Go.Proofs.YtdijkekglaimfaaGreatDoor.Ver
open Go.RowKit

theorem get_toList (s : ByteArray) (k : Nat) (h : k < s.size) : s.data.toList[k]? = some s[k] := by
  rw [Array.getElem?_toList, Array.getElem?_eq_getElem (by simpa using h)]; rfl
theorem take_snoc (s : ByteArray) (k : Nat) (h : k < s.size) : s.data.toList.take (k + 1) = s.data.toList.take k ++ [s[k]] := by
  rw [List.take_succ_eq_append_getElem (by simpa using h)]; rfl
theorem mem_toList (s : ByteArray) (k : Nat) (h : k < s.size) : s[k] ∈ s.data.toList := List.mem_of_getElem? (get_toList s k h)
theorem all_false {p : UInt8 → Bool} {s : ByteArray} {k : Nat} (h : k < s.size) (hp : p s[k] = false) : s.data.toList.all p = false :=
  List.all_eq_false.2 ⟨_, mem_toList s k h, by simp [hp]⟩
theorem size_toList (s : ByteArray) : s.data.toList.length = s.size := by simp
set_option maxHeartbeats 400000 in
theorem isWord_any (s : ByteArray) (w : World) (hs : s.size ≤ maxLen) :
    Calls Tryz.prog 57 #[.string s] w fun e w' => e = .returned (.bool (word s.data.toList)) ∧ w = w' := by
  unfold maxLen at hs
  go_enter Tryz.func57, Tryz.ntmps57
  go_wp2
  go_loop [6] (fun i => ∃ k : Nat, k ≤ s.size ∧ i = .int .i64 k ∧ Hid ((s.data.toList.take k).all letB = true)) (fun i => s.size - (intOf i).toNat)
  case atStart => exact ⟨0, Nat.zero_le _, rfl, Lib.hid (by simp)⟩
  case round =>
    obtain ⟨k, hk, rfl, hall⟩ := hrel
    by_cases hlt : k < s.size
    · by_cases h1 : (s[k].toNat : Int) < 97
      · have hf : word s.data.toList = false := by
          unfold word; rw [all_false hlt (by simp [letB]; omega)]; rfl
        have Hf := Lib.hid hf
        clear hf
        go_wp2
        go_ret
        exact ⟨by rw [Hf.out]; rfl, rfl⟩
      · by_cases h2 : 122 < (s[k].toNat : Int)
        · have hf : word s.data.toList = false := by
            unfold word; rw [all_false hlt (by simp [letB]; omega)]; rfl
          have Hf := Lib.hid hf
          clear hf
          go_wp2
          go_ret
          exact ⟨by rw [Hf.out]; rfl, rfl⟩
        · have hn : Hid ((s.data.toList.take (k + 1)).all letB = true) := Lib.hid (by
            rw [take_snoc s k hlt, List.all_append, hall.out]; simp [letB]; omega)
          go_wp2
          go_round
          case rel => exact ⟨k + 1, by omega, by go_num, hn⟩
          case measure => simp [intOf]; omega
    · obtain rfl : k = s.size := by omega
      have hr : word s.data.toList = !s.data.toList.isEmpty := by
        have := hall.out
        rw [List.take_of_length_le (by simp)] at this
        unfold word; rw [this]; rfl
      have Hr := Lib.hid hr
      clear hr
      go_wp2
      go_ret
      refine ⟨?_, rfl⟩
      rw [Hr.out, ← Lib.toList_data]
      rfl

theorem number_of {l : Bs} (h : l.all digB = true) : number l = ((l == [48]) || (!l.isEmpty && decide (l.length ≤ 9) && !(l.head? == some 48))) := by
  unfold number digits
  rw [h]
  by_cases h0 : l = [48]
  · subst h0; decide
  · have : (l == [48]) = false := by simpa using h0
    rw [this]; simp
theorem digits_empty_all {s : ByteArray} {k : Nat} (h : k < s.size) (hp : digB s[k] = false) : number s.data.toList = false := by
  unfold number digits; rw [all_false h hp]; rfl

set_option maxHeartbeats 800000 in
theorem isNumber_any (s : ByteArray) (w : World) (hs : s.size ≤ maxLen) :
    Calls Tryz.prog 58 #[.string s] w fun e w' => e = .returned (.bool (number s.data.toList)) ∧ w = w' := by
  unfold maxLen at hs
  go_enter Tryz.func58, Tryz.ntmps58
  go_wp2
  go_loop [6] (fun i => ∃ k : Nat, k ≤ s.size ∧ i = .int .i64 k ∧ Hid ((s.data.toList.take k).all digB = true)) (fun i => s.size - (intOf i).toNat)
  case atStart => exact ⟨0, Nat.zero_le _, rfl, Lib.hid (by simp)⟩
  case round =>
    obtain ⟨k, hk, rfl, hall⟩ := hrel
    by_cases hlt : k < s.size
    · by_cases h1 : (s[k].toNat : Int) < 48
      · have Hf := Lib.hid (digits_empty_all hlt (by simp [digB]; omega))
        go_wp2
        go_ret
        exact ⟨by rw [Hf.out]; rfl, rfl⟩
      · by_cases h2 : 57 < (s[k].toNat : Int)
        · have Hf := Lib.hid (digits_empty_all hlt (by simp [digB]; omega))
          go_wp2
          go_ret
          exact ⟨by rw [Hf.out]; rfl, rfl⟩
        · have hn : Hid ((s.data.toList.take (k + 1)).all digB = true) := Lib.hid (by
            rw [take_snoc s k hlt, List.all_append, hall.out]; simp [digB]; omega)
          go_wp2
          go_round
          case rel => exact ⟨k + 1, by omega, by go_num, hn⟩
          case measure => simp [intOf]; omega
    · obtain rfl : k = s.size := by omega
      have hr := number_of (l := s.data.toList) (by have := hall.out; rw [List.take_of_length_le (by simp)] at this; exact this)
      rw [size_toList] at hr
      clear hall
      by_cases h0 : s.data.toList = [48]
      · have hv : number s.data.toList = true := by rw [hr, h0]; rfl
        have Hv := Lib.hid hv
        have e1 : (s.toList == [48]) = true := by rw [Lib.toList_data, h0]; rfl
        clear hr hv h0
        go_wp2
        go_ret
        exact ⟨by rw [Hv.out]; rfl, rfl⟩
      · have e1 : (s.toList == [48]) = false := by rw [Lib.toList_data]; simpa using h0
        have e1' : ¬ s.toList = [48] := by rw [Lib.toList_data]; exact h0
        have e1'' : (s.data.toList == [48]) = false := by simpa using h0
        rw [e1'', Bool.false_or] at hr
        by_cases hz : s.size = 0
        · have hv : number s.data.toList = false := by
            rw [hr]
            have : s.data.toList = [] := List.eq_nil_of_length_eq_zero (by rw [size_toList]; exact hz)
            rw [this]; rfl
          have Hv := Lib.hid hv
          have e2 : s.toList = [] := by rw [Lib.toList_data]; exact List.eq_nil_of_length_eq_zero (by rw [size_toList]; exact hz)
          clear hr hv h0 e1'' hz
          go_wp2
          go_ret
          exact ⟨by rw [Hv.out]; rfl, rfl⟩
        · have hpos : 0 < s.size := by omega
          have e2 : s.toList.isEmpty = false := by
            rw [Lib.toList_data]; cases h : s.data.toList with
            | nil => have := size_toList s; rw [h] at this; simp at this; omega
            | cons a b => rfl
          have e3 : s.data.toList.isEmpty = false := by rw [← Lib.toList_data]; exact e2
          have e4 : s.data.toList.head? = some s[0] := by rw [List.head?_eq_getElem?]; exact get_toList s 0 hpos
          rw [e3, e4] at hr
          by_cases h9 : s.size ≤ 9
          · have d9 : decide (s.size ≤ 9) = true := by simpa using h9
            rw [d9] at hr
            by_cases h48 : s[0] = 48
            · have hv : number s.data.toList = false := by rw [hr, h48]; rfl
              have Hv := Lib.hid hv
              have e5 : ((s[0].toNat : Int) != 48) = false := by rw [h48]; rfl
              have e6 : (s.size : Int) ≤ 9 := by omega
              clear hr hv h0 e1'' h48 e3 e4 d9 hz
              go_wp2
              go_ret
              exact ⟨by rw [Hv.out]; rfl, rfl⟩
            · have hv : number s.data.toList = true := by rw [hr]; simp [h48]
              have Hv := Lib.hid hv
              have e5 : ((s[0].toNat : Int) != 48) = true := by
                rw [bne_iff_ne]; intro c; apply h48; apply UInt8.toNat_inj.1; have : (48 : UInt8).toNat = 48 := rfl; omega
              have e6 : (s.size : Int) ≤ 9 := by omega
              clear hr hv h0 e1'' h48 e3 e4 d9 hz
              go_wp2
              go_ret
              exact ⟨by rw [Hv.out]; rfl, rfl⟩
          · have d9 : decide (s.size ≤ 9) = false := by simpa using h9
            rw [d9] at hr
            have hv : number s.data.toList = false := by rw [hr]; simp
            have Hv := Lib.hid hv
            have e6 : ¬ (s.size : Int) ≤ 9 := by omega
            clear hr hv h0 e1'' e3 e4 d9 hz
            go_wp2
            go_ret
            exact ⟨by rw [Hv.out]; rfl, rfl⟩

end Go.Proofs.YtdijkekglaimfaaGreatDoor.Ver
