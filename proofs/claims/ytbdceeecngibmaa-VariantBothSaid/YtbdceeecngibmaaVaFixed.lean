/- The chapter's example. -/
import Derived.Test.YtbdceeecngibmaaVaAll
namespace Go.Proofs.Ytbdceeecngibmaa.Va
open Go.RowKit

def fixL : List Var := [(⟨#[120]⟩, [⟨#[111, 110]⟩, ⟨#[111, 102, 102]⟩]), (⟨#[121]⟩, [⟨#[49]⟩, ⟨#[50]⟩])]
theorem fix_usual : usualB fixL = [(⟨#[120]⟩, ⟨#[111, 110]⟩), (⟨#[121]⟩, ⟨#[49]⟩)] := rfl
theorem fix_all : (allB fixL).length = 4 := by decide +kernel

theorem strsTwo {w : World} {X : Nat} {a b : ByteArray} (h : w.heap[X]? = some (.cells #[.string a, .string b] 9 (0, 0))) (ha : a.size ≤ maxLen) (hb : b.size ≤ maxLen) : Strs w (.slice (some ⟨X, 0, none⟩) 2 2) [a, b] := by
  refine ⟨_, 2, rfl, by simp, by simp [maxLen], fun _ => ⟨X, 0, rfl, lt_of_heap h, fun j hj => ?_⟩⟩
  rw [Nat.zero_add]
  match j, hj with
  | 0, _ => exact ⟨cells_get h 0 rfl, ha⟩
  | 1, _ => exact ⟨cells_get h 1 rfl, hb⟩
theorem varsTwo {w : World} {X : Nat} {a b : ByteArray} {u v : Value} {p q : List ByteArray} (h : w.heap[X]? = some (.cells #[.string a, u, .string b, v] 35 (0, 0))) (ha : a.size ≤ maxLen) (hb : b.size ≤ maxLen)
    (hu : Strs w u p) (hv : Strs w v q) : Vars w (.slice (some ⟨X, 0, none⟩) 2 2) [(a, p), (b, q)] := by
  refine ⟨_, 2, rfl, by simp, by simp [maxLen], fun _ => ⟨X, 0, rfl, lt_of_heap h, fun j hj => ?_⟩⟩
  rw [Nat.zero_add]
  match j, hj with
  | 0, _ => exact ⟨cells_get h 0 rfl, ⟨u, cells_get h 1 rfl, hu⟩, ha⟩
  | 1, _ => exact ⟨cells_get h 2 rfl, ⟨v, cells_get h 3 rfl, hv⟩, hb⟩

theorem fix_vars (w : World) : Vars (((w.alloc (.cells #[.string ⟨#[111, 110]⟩, .string ⟨#[111, 102, 102]⟩] 9)).alloc (.cells #[.string ⟨#[49]⟩, .string ⟨#[50]⟩] 9)).alloc
    (.cells #[.string ⟨#[120]⟩, .slice (some ⟨w.heap.size, 0, none⟩) 2 2, .string ⟨#[121]⟩, .slice (some ⟨w.heap.size + 1, 0, none⟩) 2 2] 35)) (.slice (some ⟨w.heap.size + 1 + 1, 0, none⟩) 2 2) fixL := by
  have h0 := heap_below (heap_three w (.cells #[.string ⟨#[111, 110]⟩, .string ⟨#[111, 102, 102]⟩] 9) (.cells #[.string ⟨#[49]⟩, .string ⟨#[50]⟩] 9)) ((Below.refl _ _).alloc (Nat.le_refl _) (.cells #[.string ⟨#[120]⟩, .slice (some ⟨w.heap.size, 0, none⟩) 2 2, .string ⟨#[121]⟩, .slice (some ⟨w.heap.size + 1, 0, none⟩) 2 2] 35))
  have h1 := heap_below (heap_threeb w (.cells #[.string ⟨#[111, 110]⟩, .string ⟨#[111, 102, 102]⟩] 9) (.cells #[.string ⟨#[49]⟩, .string ⟨#[50]⟩] 9)) ((Below.refl _ _).alloc (Nat.le_refl _) (.cells #[.string ⟨#[120]⟩, .slice (some ⟨w.heap.size, 0, none⟩) 2 2, .string ⟨#[121]⟩, .slice (some ⟨w.heap.size + 1, 0, none⟩) 2 2] 35))
  have h2 := heap_threeb (w.alloc (.cells #[.string ⟨#[111, 110]⟩, .string ⟨#[111, 102, 102]⟩] 9)) (.cells #[.string ⟨#[49]⟩, .string ⟨#[50]⟩] 9) (.cells #[.string ⟨#[120]⟩, .slice (some ⟨w.heap.size, 0, none⟩) 2 2, .string ⟨#[121]⟩, .slice (some ⟨w.heap.size + 1, 0, none⟩) 2 2] 35)
  rw [show (w.alloc (.cells #[.string ⟨#[111, 110]⟩, .string ⟨#[111, 102, 102]⟩] 9)).heap.size = w.heap.size + 1 by simp] at h2
  exact varsTwo h2 (by decide) (by decide) (strsTwo h0 (by decide) (by decide)) (strsTwo h1 (by decide) (by decide))

theorem usual_fix (W : World) (v : Value) (h : Vars W v fixL) : Calls Try.prog 21 #[v] W fun e w' => ∃ b c, e = .returned (.slice (some ⟨b, 0, none⟩) 2 c) ∧ b < w'.heap.size ∧
    (w'.cell? ⟨b, 0, none⟩ = some (.string ⟨#[120]⟩) ∧ w'.cell? ⟨b, 1, none⟩ = some (.string ⟨#[111, 110]⟩) ∧ w'.cell? ⟨b, 2, none⟩ = some (.string ⟨#[121]⟩) ∧ w'.cell? ⟨b, 3, none⟩ = some (.string ⟨#[49]⟩)) ∧ Below W.heap.size W w' := by
  refine (usual_any W v fixL h (by decide)).mono ?_
  rintro e w' ⟨A, n, c, rfl, hown, hb⟩
  rw [fix_usual] at hown
  have hs := hown.sets (by intro x hx; simp at hx; rcases hx with rfl | rfl <;> exact ⟨by decide, by decide⟩)
  obtain ⟨A', L, c', e, hL, h1, h2, h3⟩ := hs.open'
  injection e with e1 e2 e3
  subst e1; subst e2; subst e3
  have hL2 : n = 2 := hL
  subst hL2
  rcases hown.2 with ⟨e, _⟩ | ⟨g, cap, cur, e, _, hh, _⟩
  · cases e
  · injection e with e1 _ _
    subst e1
    obtain ⟨b, off, e, hlt, hc⟩ := h3 (by omega)
    injection e with e
    injection e with e4 e5
    subst e4; subst e5
    obtain ⟨q0, q1, _⟩ := hc 0 (by omega)
    obtain ⟨q2, q3, _⟩ := hc 1 (by omega)
    exact ⟨g, c, rfl, hlt, ⟨q0, q1, q2, q3⟩, hb⟩

set_option maxRecDepth 100000 in
set_option maxHeartbeats 1600000 in
theorem fixed_any (w : World) : Calls Try.prog 8 #[] w fun e w' => e = .returned (.bool true) ∧ Below w.heap.size w w' := by
  have HV := Lib.hid (fix_vars w)
  go_enter Try.func8, Try.ntmps8
  go_wp2_with fail
  refine (usual_fix _ _ HV.out).mono ?_
  rintro e w1 ⟨b, c, rfl, hlt, ⟨c0, c1, c2, c3⟩, hb⟩
  have HV1 := Lib.hid (HV.out.below hb (Nat.le_refl _))
  have HB := Lib.hid ((((Below.refl _ w).alloc (Nat.le_refl _) _).alloc (by simp) _).alloc (by simp; omega) _ |>.trans (hb.mono (by simp; omega)))
  clear hb
  go_wp2_with fail
  refine (all_any _ _ fixL HV1.out).mono ?_
  rintro e w2 ⟨A, n, cp, us, rfl, hn, hown, hb2⟩
  rw [fix_all] at hn
  subst hn
  have d0 := (hb2.cell (p := ⟨b, 0, none⟩) hlt).trans c0
  have d1 := (hb2.cell (p := ⟨b, 1, none⟩) hlt).trans c1
  have d2 := (hb2.cell (p := ⟨b, 2, none⟩) hlt).trans c2
  have d3 := (hb2.cell (p := ⟨b, 3, none⟩) hlt).trans c3
  have HB2 := Lib.hid (HB.out.trans (hb2.mono HB.out.size))
  clear c0 c1 c2 c3 hb2 hown
  go_wp2
  go_ret
  exact ⟨rfl, HB2.out⟩

end Go.Proofs.Ytbdceeecngibmaa.Va
