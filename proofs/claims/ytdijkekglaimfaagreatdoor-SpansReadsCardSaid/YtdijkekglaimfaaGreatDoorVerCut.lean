/- strings.Cut at one byte: no fact on any variable of the library's is wanted. -/
import Derived.Test.YtdijkekglaimfaaGreatDoorVerStr
import Derived.Lib.CutLaws
import Derived.RegionTactic
import Derived.ChangeAlike
namespace Go.Proofs.YtdijkekglaimfaaGreatDoor.Ver
open Go.RowKit

theorem index_one (c : UInt8) : ∀ l : Bs, Lib.index l [c] = Lib.indexByte l c
  | [] => rfl
  | b :: l => by
    rw [Lib.index, Lib.indexByte, index_one c l]
    by_cases h : b == c
    · have h' : c = b := by have : b = c := by simpa using h
                            exact this.symm
      subst h'; simp [List.isPrefixOf]
    · have h2 : ¬ c = b := fun e => h (by simp [e])
      have hp : ([c] : Bs).isPrefixOf (b :: l) = false := by simp [List.isPrefixOf, h2]
      rw [hp, if_neg h]; rfl

theorem index_any (s : ByteArray) (c : UInt8) (v : Int) (w : World) (h : Lib.indexB s ⟨#[c]⟩ = v) :
    Calls Tryz.prog 69 #[.string s, .string ⟨#[c]⟩] w fun e w' => e = .returned (.int .i64 v) ∧ w = w' := by
  refine (Tryz.stringslite_Index_one s c w).mono ?_
  rintro e w' ⟨rfl, rfl⟩
  refine ⟨?_, rfl⟩
  rw [← index_one, ← h]

set_option maxHeartbeats 800000 in
theorem slcut_miss (s : ByteArray) (c : UInt8) (w : World) (h : Lib.indexB s ⟨#[c]⟩ = -1) :
    Calls Tryz.prog 48 #[.string s, .string ⟨#[c]⟩] w fun e w' => e = .returned (.tuple #[.string s, .string ByteArray.empty, .bool false]) ∧ w = w' := by
  have H := Lib.hid h
  clear h
  go_enter Tryz.func48, Tryz.ntmps48
  go_wp2_with fail
  refine (index_any s c (-1) _ H.out).mono ?_
  rintro e w' ⟨rfl, rfl⟩
  go_wp2
  go_ret3
  exact ⟨rfl, rfl⟩

set_option maxHeartbeats 800000 in
theorem slcut_hit (s : ByteArray) (c : UInt8) (i : Nat) (w : World) (h : Lib.indexB s ⟨#[c]⟩ = i) (hi : i + 1 ≤ s.size) (hs : s.size ≤ maxLen) :
    Calls Tryz.prog 48 #[.string s, .string ⟨#[c]⟩] w fun e w' => e = .returned (.tuple #[.string (s.extract 0 i), .string (s.extract (i + 1) s.size), .bool true]) ∧ w.drew = w' := by
  unfold maxLen at hs
  have H := Lib.hid h
  have c1 : (0 : Int) ≤ ↑i := by omega
  have c2 : (↑i : Int) ≤ ↑s.size := by omega
  have c3 : (0 : Int) ≤ ↑i + 1 := by omega
  have c4 : (↑i + 1 : Int) ≤ ↑s.size := by omega
  clear h
  go_enter Tryz.func48, Tryz.ntmps48
  go_wp2_with fail
  refine (index_any s c i _ H.out).mono ?_
  rintro e w' ⟨rfl, rfl⟩
  go_wp2_with fail
  go_region
  all_goals (go_wp2; go_ret3; exact ⟨rfl, rfl⟩)

set_option maxHeartbeats 800000 in
theorem cut_miss (s : ByteArray) (c : UInt8) (w : World) (h : Lib.indexB s ⟨#[c]⟩ = -1) :
    Calls Tryz.prog 27 #[.string s, .string ⟨#[c]⟩] w fun e w' => e = .returned (.tuple #[.string s, .string ByteArray.empty, .bool false]) ∧ w = w' := by
  have H := Lib.hid h
  clear h
  go_enter Tryz.func27, Tryz.ntmps27
  go_wp2_with fail
  refine (slcut_miss s c _ H.out).mono ?_
  rintro e w' ⟨rfl, rfl⟩
  go_wp2
  go_ret3
  exact ⟨rfl, rfl⟩

set_option maxHeartbeats 800000 in
theorem cut_hit (s : ByteArray) (c : UInt8) (i : Nat) (w : World) (h : Lib.indexB s ⟨#[c]⟩ = i) (hi : i + 1 ≤ s.size) (hs : s.size ≤ maxLen) :
    Calls Tryz.prog 27 #[.string s, .string ⟨#[c]⟩] w fun e w' => e = .returned (.tuple #[.string (s.extract 0 i), .string (s.extract (i + 1) s.size), .bool true]) ∧ w.drew = w' := by
  have H := Lib.hid h
  clear h
  go_enter Tryz.func27, Tryz.ntmps27
  go_wp2_with fail
  refine (slcut_hit s c i _ H.out hi hs).mono ?_
  rintro e w' ⟨rfl, rfl⟩
  go_wp2
  go_ret3
  exact ⟨rfl, rfl⟩

theorem parts_miss {s : ByteArray} {c : UInt8} (h : Lib.indexB s ⟨#[c]⟩ = -1) : cut c s.data.toList = [s.data.toList] := by
  obtain ⟨_, _, e3⟩ := Lib.cutB_miss s ⟨#[c]⟩ h
  rw [cut_of_cut, show ([c] : Bs) = (⟨#[c]⟩ : ByteArray).data.toList from rfl, e3]; rfl
theorem parts_hit {s : ByteArray} {c : UInt8} {i : Nat} (h : Lib.indexB s ⟨#[c]⟩ = i) :
    cut c s.data.toList = (s.extract 0 i).data.toList :: cut c (s.extract (i + 1) s.size).data.toList := by
  obtain ⟨e1, e2, e3⟩ := Lib.cutB_hit s ⟨#[c]⟩ i h
  have f1 := congrArg (fun b : ByteArray => b.data.toList) e1
  have f2 := congrArg (fun b : ByteArray => b.data.toList) e2
  simp only [] at f1 f2
  rw [cut_of_cut, show ([c] : Bs) = (⟨#[c]⟩ : ByteArray).data.toList from rfl, e3, if_pos rfl, f1, f2]; rfl
theorem mk_toList (s : ByteArray) : (⟨s.data.toList.toArray⟩ : ByteArray) = s := by cases s; simp
theorem index_room' {s : ByteArray} {c : UInt8} : Lib.indexB s ⟨#[c]⟩ = -1 ∨ ∃ i : Nat, Lib.indexB s ⟨#[c]⟩ = i ∧ i + 1 ≤ s.size := Lib.indexB_cases s ⟨#[c]⟩

end Go.Proofs.YtdijkekglaimfaaGreatDoor.Ver
