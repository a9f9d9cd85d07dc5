/- The walks of a pace. -/
import Derived.Test.YtbnolfiboflmiaaLubyRef
import Derived.Deep.RegionWith
namespace Go.Proofs.Ytbnolfiboflmiaa.Luby
open Go.RowKit

def Pc (w : World) (B : Nat) (u k r l : Int) : Prop := w.heap[B]? = some (.cells #[.int .i64 u, .int .i64 k, .int .i64 r, .int .i64 l] 39 (0, 0))

set_option maxHeartbeats 400000 in
theorem turn_no (w : World) (B : Nat) (u k r l : Int) (h : Pc w B u k r l) (h1 : 1 < l) (h2 : l ≤ 9223372036854775807) :
    Calls Try.prog 14 #[.pointer (some ⟨B, 0, none⟩)] w fun e w' => e = .returned (.bool false) ∧ Pc w' B u k r (l - 1) ∧ w.grownBy w' (some B) := by
  have c3 := cells_get h 3 (v := .int .i64 l) rfl
  have f3 := cells_free h 3
  have H := Lib.hid h
  clear h
  go_enter Try.func14, Try.ntmps14
  go_wp2
  go_ret
  exact ⟨rfl, cells_set H.out 3 _, grown_set _ _ _ _⟩

set_option maxHeartbeats 400000 in
theorem turn_yes (w : World) (B : Nat) (u k : Int) (r : Nat) (v : Int) (h : Pc w B u k r 1) (h2 : r ≤ 2000) (hu : 1 ≤ u) (hu' : u ≤ 3000) (hv : rowZ ((r : Int) + 1 + 1) = v) (hv0 : 0 ≤ v) (hv1 : v ≤ 3000) :
    Calls Try.prog 14 #[.pointer (some ⟨B, 0, none⟩)] w fun e w' => e = .returned (.bool true) ∧ Pc w' B u k (r + 1) (u * v) ∧ w.grownBy w' (some B) := by
  have c0 := cells_get h 0 (v := .int .i64 u) rfl
  have c2 := cells_get h 2 (v := .int .i64 r) rfl
  have c3 := cells_get h 3 (v := .int .i64 1) rfl
  have f3 := cells_free h 3
  have f2 := cells_free h 2
  have H := Lib.hid h
  have Hv := Lib.hid hv
  clear h hv
  have hmul0 : 0 ≤ u * v := Int.mul_nonneg (by omega) hv0
  have hmul1 : u * v ≤ 3000 * 3000 := Int.mul_le_mul hu' hv1 hv0 (by omega)
  go_enter Try.func14, Try.ntmps14
  go_wp2_with fail
  have e1 : IntKind.i64.wrap ((r : Int) + 1 + 1) = (r : Int) + 1 + 1 := IntWalk.i64_in _ (by omega)
  have e2 : IntKind.i64.wrap (u * v) = u * v := IntWalk.i64_in _ (by omega)
  go_region_with (go_at_call 8; refine (row_at _ v _ (by omega) Hv.out).mono ?_; rintro e w' ⟨rfl, rfl⟩)
  all_goals (go_wp2; go_ret)
  all_goals exact ⟨rfl, cells_set (cells_set (cells_set H.out 3 _) 2 _) 3 _, grown_trans (grown_trans (grown_trans (grown_set _ _ _ _) (grown_set _ _ _ _)) (grown_set _ _ _ _)) (grown_drew _ _)⟩

set_option maxHeartbeats 400000 in
theorem forget_no (w : World) (B : Nat) (u k r l n : Int) (h : Pc w B u k r l) (hn : n ≤ k) :
    Calls Try.prog 15 #[.pointer (some ⟨B, 0, none⟩), .int .i64 n] w fun e w' => e = .returned (.bool false) ∧ Pc w' B u k r l ∧ w.grownBy w' (some B) := by
  have c1 := cells_get h 1 (v := .int .i64 k) rfl
  have H := Lib.hid h
  clear h
  go_enter Try.func15, Try.ntmps15
  go_wp2
  go_ret
  exact ⟨rfl, H.out, grown_refl _ _⟩

/-- How many are kept behind that. -/
def more (k : Int) : Int := if k ≤ 9223372036854775807 - (k / 2 + 1) then k + (k / 2 + 1) else 9223372036854775807

set_option maxHeartbeats 400000 in
theorem forget_yes (w : World) (B : Nat) (u k r l n : Int) (h : Pc w B u k r l) (hn : k < n) (k1 : 1 ≤ k) (k2 : k ≤ 9223372036854775807) :
    Calls Try.prog 15 #[.pointer (some ⟨B, 0, none⟩), .int .i64 n] w fun e w' => e = .returned (.bool true) ∧ Pc w' B u (more k) r l ∧ w.grownBy w' (some B) := by
  have c1 := cells_get h 1 (v := .int .i64 k) rfl
  have f1 := cells_free h 1
  have H := Lib.hid h
  clear h
  by_cases hc : k ≤ 9223372036854775807 - (k / 2 + 1)
  · have hm : more k = k + (k / 2 + 1) := if_pos hc
    have Hm := Lib.hid hm
    clear hm
    go_enter Try.func15, Try.ntmps15
    go_wp2
    go_ret
    exact ⟨rfl, by rw [Hm.out]; exact cells_set H.out 1 _, grown_set _ _ _ _⟩
  · have hm : more k = 9223372036854775807 := if_neg hc
    have Hm := Lib.hid hm
    clear hm
    go_enter Try.func15, Try.ntmps15
    go_wp2
    go_ret
    exact ⟨rfl, by rw [Hm.out]; exact cells_set H.out 1 _, grown_set _ _ _ _⟩

set_option maxHeartbeats 400000 in
theorem conflict_of (w : World) (B : Nat) (u k r l n k' r' l' : Int) (b c : Bool) (h : Pc w B u k r l)
    (T : ∀ w, Pc w B u k r l → Calls Try.prog 14 #[.pointer (some ⟨B, 0, none⟩)] w fun e w' => e = .returned (.bool b) ∧ Pc w' B u k r' l' ∧ w.grownBy w' (some B))
    (F : ∀ w, Pc w B u k r' l' → Calls Try.prog 15 #[.pointer (some ⟨B, 0, none⟩), .int .i64 n] w fun e w' => e = .returned (.bool c) ∧ Pc w' B u k' r' l' ∧ w.grownBy w' (some B)) :
    Calls Try.prog 11 #[.pointer (some ⟨B, 0, none⟩), .int .i64 n] w fun e w' => e = .returned (.tuple #[.bool b, .bool c]) ∧ Pc w' B u k' r' l' ∧ w.grownBy w' (some B) := by
  have H := Lib.hid h
  have HT := Lib.hid T
  have HF := Lib.hid F
  clear h T F
  go_enter Try.func11, Try.ntmps11
  go_wp2_with fail
  refine (HT.out _ H.out).mono ?_
  rintro e w1 ⟨rfl, h1, g1⟩
  have H1 := Lib.hid h1
  clear h1
  go_wp2_with fail
  refine (HF.out _ H1.out).mono ?_
  rintro e w2 ⟨rfl, h2, g2⟩
  go_wp2
  go_ret2
  exact ⟨rfl, h2, grown_trans g1 g2⟩

set_option maxHeartbeats 400000 in
theorem restarts_any (w : World) (B : Nat) (u k r l : Int) (h : Pc w B u k r l) :
    Calls Try.prog 12 #[.pointer (some ⟨B, 0, none⟩)] w fun e w' => e = .returned (.int .i64 r) ∧ w = w' := by
  have c2 := cells_get h 2 (v := .int .i64 r) rfl
  clear h
  go_enter Try.func12, Try.ntmps12
  go_wp2
  go_ret
  exact ⟨rfl, rfl⟩

set_option maxHeartbeats 400000 in
theorem new_any (w : World) (a b : Int) :
    Calls Try.prog 10 #[.int .i64 a, .int .i64 b] w fun e w' => e = .returned (.pointer (some ⟨w.heap.size, 0, none⟩)) ∧ Pc w' w.heap.size (max a 1) (max b 1) 0 (max a 1) ∧ w.grownBy w' none := by
  go_enter Try.func10, Try.ntmps10
  go_wp2
  go_ret
  exact ⟨rfl, heap_alloc_new w _, World.grownBy_alloc w _ none⟩

end Go.Proofs.Ytbnolfiboflmiaa.Luby
