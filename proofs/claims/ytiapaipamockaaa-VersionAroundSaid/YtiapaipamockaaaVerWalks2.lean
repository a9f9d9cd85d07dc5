/- The laws of layer 1 that lay three texts: VersionCompare, VersionTails. -/
import Derived.Test.YtiapaipamockaaaVerWalks
namespace Go.Proofs.Ytiapaipamockaaa.Ver
open Go.RowKit

theorem mk_own (a : ByteArray) : (⟨a.data.toList.toArray⟩ : ByteArray) = a := by
  cases a; simp

/-- The list of three texts that a law lays. -/
theorem great3_any (a b c : ByteArray) (w : World) :
    Calls Try.prog 14 #[.slice (some ⟨w.heap.size, 0, none⟩) 3 3] (w.alloc (.cells #[.string a, .string b, .string c] 9))
      fun e w' => (e = .returned (.bool true) ∨ e = .returned (.bool false) ∧ a.size ≤ 9000 ∧ b.size ≤ 9000 ∧ c.size ≤ 9000) ∧ Below w.heap.size w w' := by
  have hb : Below w.heap.size w (w.alloc (.cells #[.string a, .string b, .string c] 9)) := (Below.refl _ w).alloc (Nat.le_refl _) _
  have hs : StrAt (w.alloc (.cells #[.string a, .string b, .string c] 9)) (.slice (some ⟨w.heap.size, 0, none⟩) 3 3) [a.data.toList, b.data.toList, c.data.toList] := by
    refine ⟨_, 3, rfl, fun _ => ⟨_, 0, rfl, by simp, fun i hi => ?_⟩⟩
    rw [cell_of_row _ _ _ _ _ _ (heap_alloc_new w _)]
    match i, hi with
    | 0, _ => exact congrArg (fun t => some (Value.string t)) (mk_own a).symm
    | 1, _ => exact congrArg (fun t => some (Value.string t)) (mk_own b).symm
    | 2, _ => exact congrArg (fun t => some (Value.string t)) (mk_own c).symm
  refine (great_any _ _ _ (by simp) hs).mono ?_
  rintro e w' ⟨h, h2⟩
  refine ⟨?_, hb.trans (h2.mono hb.size)⟩
  rcases h with h | ⟨h, h3⟩
  · exact .inl h
  · refine .inr ⟨h, ?_, ?_, ?_⟩
    · rw [← size_toList]; exact h3 0 (by simp)
    · rw [← size_toList]; exact h3 1 (by simp)
    · rw [← size_toList]; exact h3 2 (by simp)

set_option maxHeartbeats 2000000 in
theorem versionCompare_any (a : ByteArray) (_ha : a.size ≤ maxLen) (b : ByteArray) (_hb : b.size ≤ maxLen) (c : ByteArray) (_hc : c.size ≤ maxLen) (w : World) :
    Calls Try.prog 4 #[.string a, .string b, .string c] w fun e w' => e = .returned (.bool true) ∧ Below w.heap.size w w' := by
  obtain ⟨x, hx⟩ : ∃ x, compare a.data.toList b.data.toList = x := ⟨_, rfl⟩
  obtain ⟨y, hy⟩ : ∃ y, compare b.data.toList c.data.toList = y := ⟨_, rfl⟩
  obtain ⟨z, hz⟩ : ∃ z, compare a.data.toList c.data.toList = z := ⟨_, rfl⟩
  have hn := compare_anti a.data.toList b.data.toList
  rw [hx] at hn
  have rx := compare_range a.data.toList b.data.toList
  have ry := compare_range b.data.toList c.data.toList
  have rz := compare_range a.data.toList c.data.toList
  have ht := compare_trans a.data.toList b.data.toList c.data.toList
  have he : x = 0 → y = 0 → z = 0 := by
    intro h1 h2; rw [← hz]; exact compare_eq_trans (hx.trans h1) (hy.trans h2)
  have hq : x = 0 → a = b ∨ (may a.data.toList = false ∧ may b.data.toList = false) := by
    intro h1
    rcases compare_eq (hx.trans h1) with h | h
    · left; rw [← mk_own a, ← mk_own b, h]
    · exact .inr h
  rw [hx] at rx ht
  rw [hy] at ry ht
  rw [hz] at rz ht
  have Hx := Lib.hid hx
  have Hy := Lib.hid hy
  have Hz := Lib.hid hz
  have Hn := Lib.hid hn
  have Hr := Lib.hid (And.intro rx (And.intro ry (And.intro rz (And.intro ht (And.intro he hq)))))
  clear hx hy hz hn rx ry rz ht he hq
  go_enter Try.func4, Try.ntmps4
  go_wp2_with fail
  refine (great3_any a b c w).mono ?_
  rintro e w1 ⟨rfl | ⟨rfl, _, _, _⟩, h1⟩
  · go_wp2_with fail
    refine (fixed_any _).mono ?_
    rintro e w2 ⟨rfl, h2⟩
    go_wp2
    go_ret
    exact ⟨rfl, h1.trans (h2.mono h1.size)⟩
  go_wp2_with fail
  refine (compare_is a b _ Hx.out _).mono ?_
  rintro e w2 ⟨rfl, h2⟩
  go_wp2_with fail
  refine (compare_is b c _ Hy.out _).mono ?_
  rintro e w3 ⟨rfl, h3⟩
  go_wp2_with fail
  refine (compare_is a c _ Hz.out _).mono ?_
  rintro e w4 ⟨rfl, h4⟩
  go_wp2_with fail
  refine (refCompare_is a b _ Hx.out _).mono ?_
  rintro e w5 ⟨rfl, h5⟩
  have hb5 : Below w.heap.size w w5 := h1.trans ((h2.trans ((h3.trans ((h4.trans (h5.mono h4.size)).mono h3.size)).mono h2.size)).mono h1.size)
  clear h1 h2 h3 h4 h5
  obtain ⟨rx, ry, rz, ht, he, hq⟩ := Hr.out
  have Hq := Lib.hid hq
  clear hq Hr
  rcases rx with rfl | rfl | rfl
  · clear Hq
    rcases ry with rfl | rfl | rfl <;> rcases rz with rfl | rfl | rfl
    all_goals first
    | (exfalso; clear Hx Hy Hz Hn; omega)
    | (clear ht he
       go_wp2_with fail
       refine (compare_is b a _ Hn.out _).mono ?_
       rintro e w6 ⟨rfl, h6⟩
       go_wp2_with fail
       refine (fixed_any _).mono ?_
       rintro e w7 ⟨rfl, h7⟩
       have hb7 : Below w.heap.size w w7 := hb5.trans ((h6.trans (h7.mono h6.size)).mono hb5.size)
       go_wp2
       go_ret
       exact ⟨rfl, hb7⟩)
  · have HqT := Lib.hid (Hq.out rfl)
    clear Hq
    rcases ry with rfl | rfl | rfl <;> rcases rz with rfl | rfl | rfl
    all_goals first
    | (exfalso; clear Hx Hy Hz Hn HqT; omega)
    | (clear ht he
       go_wp2_with fail
       refine (compare_is b a _ Hn.out _).mono ?_
       rintro e w6 ⟨rfl, h6⟩
       go_wp2_with fail
       refine (fixed_any _).mono ?_
       rintro e w7 ⟨rfl, h7⟩
       have hb7 : Below w.heap.size w w7 := hb5.trans ((h6.trans (h7.mono h6.size)).mono hb5.size)
       by_cases heq : a = b
       · have e2 : (a.toList == b.toList) = true := by rw [heq]; simp
         clear heq HqT
         go_wp2
         go_ret
         exact ⟨rfl, hb7⟩
       · have e2 : (a.toList == b.toList) = false := by
           rw [beq_eq_false_iff_ne]; intro e; rw [Lib.toList_data, Lib.toList_data] at e; exact heq (by rw [← mk_own a, ← mk_own b, e])
         obtain ⟨m1, m2⟩ := HqT.out.resolve_left heq
         have M1 := Lib.hid m1
         have M2 := Lib.hid m2
         clear heq HqT m1 m2
         go_wp2_with fail
         refine (refMay_is a _ M1.out _).mono ?_
         rintro e w8 ⟨rfl, h8⟩
         go_wp2_with fail
         refine (refMay_is b _ M2.out _).mono ?_
         rintro e w9 ⟨rfl, h9⟩
         go_wp2
         go_ret
         exact ⟨rfl, hb7.trans ((h8.trans (h9.mono h8.size)).mono hb7.size)⟩)
  · clear Hq
    rcases ry with rfl | rfl | rfl <;> rcases rz with rfl | rfl | rfl
    all_goals first
    | (exfalso; clear Hx Hy Hz Hn; omega)
    | (clear ht he
       go_wp2_with fail
       refine (compare_is b a _ Hn.out _).mono ?_
       rintro e w6 ⟨rfl, h6⟩
       go_wp2_with fail
       refine (fixed_any _).mono ?_
       rintro e w7 ⟨rfl, h7⟩
       have hb7 : Below w.heap.size w w7 := hb5.trans ((h6.trans (h7.mono h6.size)).mono hb5.size)
       go_wp2
       go_ret
       exact ⟨rfl, hb7⟩)

end Go.Proofs.Ytiapaipamockaaa.Ver
