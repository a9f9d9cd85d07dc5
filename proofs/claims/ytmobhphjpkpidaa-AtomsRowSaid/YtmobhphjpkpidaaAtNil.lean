/- The chapter's example, and a nil table. -/
import Derived.Test.YtmobhphjpkpidaaAtoms
namespace Go.Proofs.Ytmobhphjpkpidaa.At
open Go.RowKit

set_option maxRecDepth 100000 in
set_option maxHeartbeats 800000 in
theorem fixed_any (w : World) :
    Calls Try.prog 6 #[] w fun e w' => e = .returned (.bool true) ∧ Below w.heap.size w w' := by
  go_enter Try.func6, Try.ntmps6
  go_wp2_with fail
  refine (new_is _ 5 (by omega) (by omega)).mono ?_
  rintro e w1 ⟨rfl, ht, hb⟩
  have HT := Lib.hid ht
  have lB := lt_of_heap ht.1
  clear ht
  go_wp2_with fail
  refine (number_new _ w.heap.size (w.heap.size + 1) w.heap.size 5 false _ [] (HT.out.below ((Below.refl _ _).alloc (Nat.le_refl _) _)) 1 7 0 0 ⟨by decide, by decide, by decide, by decide⟩ rfl (by decide) (by omega) (by have := hb.size; simp; omega)).mono ?_
  rintro e w2 ⟨rfl, v', ht2, htt, hv'⟩
  have hx2 := heap_touch (heap_alloc_new w1 (.cells #[.int .u8 1, .int .i64 7, .int .i64 0, .int .i64 0] 23)) htt (by simp [Value.ownBlock]; omega)
  have x0 := cells_get hx2 0 (v := .int .u8 1) rfl
  have x1 := cells_get hx2 1 (v := .int .i64 7) rfl
  have x2 := cells_get hx2 2 (v := .int .i64 0) rfl
  have x3 := cells_get hx2 3 (v := .int .i64 0) rfl
  have HT2 := Lib.hid ht2
  have HB2 := Lib.hid (show Below w.heap.size w w2 from htt.belows (hb.alloc (by have := hb.size; omega) _) (Nat.le_refl _) (by simp [Value.ownBlock]))
  clear ht2 hx2 htt hv'
  go_wp2_with fail
  refine (number_old _ w.heap.size (w.heap.size + 1) w.heap.size 5 false _ _ HT2.out 1 7 0 0 ⟨by decide, by decide, by decide, by decide⟩ 1 rfl (by omega)).mono ?_
  rintro e w3 ⟨rfl, hb3⟩
  clear x0 x1 x2 x3
  go_wp2_with fail
  refine (len_is _ w.heap.size (w.heap.size + 1) w.heap.size 5 false _ _ (HT2.out.below hb3)).mono ?_
  rintro e w4 ⟨rfl, rfl⟩
  go_wp2
  go_ret
  exact ⟨rfl, HB2.out.trans (hb3.mono HB2.out.size)⟩

set_option maxRecDepth 100000 in
set_option maxHeartbeats 800000 in
theorem atomsNil_any (k a b c : Int) (n : Int) (_wn : (Lit.int .i64 n).wf = true) (w : World) :
    Calls Try.prog 3 #[.agg #[.int .u8 k, .int .i64 a, .int .i64 b, .int .i64 c], .int .i64 n] w fun e w' => e = .returned (.bool true) ∧ Below w.heap.size w w' := by
  go_enter Try.func3, Try.ntmps3
  have hb0 : Below w.heap.size w (w.alloc (.cells #[.int .u8 k, .int .i64 a, .int .i64 b, .int .i64 c] 23)) := (Below.refl _ _).alloc (Nat.le_refl _) _
  have hx0 := heap_alloc_new w (.cells #[.int .u8 k, .int .i64 a, .int .i64 b, .int .i64 c] 23)
  go_wp2_with fail
  refine (at_nil _ _).mono ?_
  rintro e w1 ⟨rfl, hb1⟩
  have hx1 := heap_below hx0 hb1
  have H1 := Lib.hid ((hb0.trans (hb1.mono hb0.size)).alloc (hb0.trans (hb1.mono hb0.size)).size (.cells #[.int .u8 0, .int .i64 0, .int .i64 0, .int .i64 0] 23))
  have HX1 := Lib.hid (heap_below hx1 ((Below.refl _ _).alloc (Nat.le_refl _) (.cells #[.int .u8 0, .int .i64 0, .int .i64 0, .int .i64 0] 23)))
  clear hx0 hb0 hx1
  go_wp2_with fail
  refine (fixed_any _).mono ?_
  rintro e w2 ⟨rfl, hb2⟩
  have hb2' := H1.out.trans (hb2.mono H1.out.size)
  have hx2 := heap_below HX1.out hb2
  have x0 := cells_get hx2 0 (v := .int .u8 k) rfl
  have x1 := cells_get hx2 1 (v := .int .i64 a) rfl
  have x2 := cells_get hx2 2 (v := .int .i64 b) rfl
  have x3 := cells_get hx2 3 (v := .int .i64 c) rfl
  have H2 := Lib.hid hb2'
  have HX2 := Lib.hid hx2
  clear hb2' hb2 hx2 hb1
  go_wp2_with fail
  refine (number_nil _ _ _ _ _).mono ?_
  rintro e w3 ⟨rfl, hb3⟩
  have hx3 := heap_below HX2.out hb3
  clear x0 x1 x2 x3
  have x0 := cells_get hx3 0 (v := .int .u8 k) rfl
  have x1 := cells_get hx3 1 (v := .int .i64 a) rfl
  have x2 := cells_get hx3 2 (v := .int .i64 b) rfl
  have x3 := cells_get hx3 3 (v := .int .i64 c) rfl
  have H3 := Lib.hid (H2.out.trans (hb3.mono H2.out.size))
  have HX3 := Lib.hid hx3
  clear hx3 hb3
  go_wp2_with fail
  refine (help_nil _).mono ?_
  rintro e w' ⟨rfl, rfl⟩
  go_wp2_with fail
  refine (look_nil _ _ _ _ _).mono ?_
  rintro e w4 ⟨rfl, hb4⟩
  have H4 := Lib.hid (H3.out.trans (hb4.mono H3.out.size))
  clear x0 x1 x2 x3 hb4
  go_wp2_with fail
  refine (len_nil _).mono ?_
  rintro e w' ⟨rfl, rfl⟩
  go_wp2_with fail
  refine (full_nil _).mono ?_
  rintro e w' ⟨rfl, rfl⟩
  go_wp2
  go_ret
  exact ⟨rfl, H4.out⟩

end Go.Proofs.Ytmobhphjpkpidaa.At
