/- Circle, and the chapter's example. -/
import Derived.Test.YtiimhndiifojnaaOrBack
namespace Go.Proofs.Ytiimhndiifojnaa.Or
open Go.RowKit

/-- Rows that came in, or none. -/
def RowsAt (w : World) (A : Option Addr) (n : Nat) (Ln : Nat → Nat) (Z : Nat → Nat → Int) : Prop := n = 0 ∨ ∃ b off, A = some ⟨b, off, none⟩ ∧ Rows2 w b off n Ln Z

def CirclePost (w : World) (n : Nat) (Ln : Nat → Nat) (Z : Nat → Nat → Int) (e : Ending) (w' : World) : Prop :=
  Below w.heap.size w w' ∧ ((e = .returned (.slice none 0 0) ∧ ¬ Round n Ln Z) ∨ ∃ v l C, e = .returned v ∧ Cyc n Ln Z l ∧ (∀ q, q < nth l 0 → ¬ Way n Ln Z q q) ∧ Queue w' w.heap.size C v l)

set_option maxHeartbeats 1600000 in
theorem circle_any (w : World) (A : Option Addr) (n cap : Nat) (Ln : Nat → Nat) (Z : Nat → Nat → Int) (hn : n ≤ 1000) (hE : RowsAt w A n Ln Z) :
    Calls Try.prog 6 #[.slice A n cap] w (CirclePost w n Ln Z) := by
  have HE := Lib.hid hE
  clear hE
  go_enter Try.func6, Try.ntmps6
  go_wp2
  go_loopw [7] (fun i wr => ∃ k : Nat, i = .int .i64 (k : Int) ∧ k ≤ n ∧ (∀ q, q < k → ¬ Way n Ln Z q q) ∧ Below w.heap.size w wr) (fun i _ => n - (intOf i).toNat)
  case atStart => exact ⟨0, rfl, by omega, fun q hq => by omega, Below.refl _ _⟩
  case round =>
    obtain ⟨k, rfl, hk, hno, hbw⟩ := hrel
    have HNO := Lib.hid hno
    have HW := Lib.hid hbw
    clear hno hbw
    by_cases hlt : k < n
    · have hE := HE.out
      rcases hE with h0 | ⟨b, off, rfl, hE⟩
      · omega
      have HR := Lib.hid (hE.below HW.out (Nat.le_refl _))
      clear hE
      go_wp2_with fail
      refine (wayBack_any _ b off n cap Ln Z hn HR.out k hlt).mono ?_
      rintro e w2 ⟨hb2, hres⟩
      have HB2 := Lib.hid (HW.out.trans (hb2.mono HW.out.size))
      clear hb2
      rcases hres with ⟨rfl, hnot⟩ | ⟨v, l, C, rfl, hcy, hl0, hq⟩
      · have HN := Lib.hid hnot
        clear hnot
        go_wp2
        go_roundw
        case rel => exact ⟨k + 1, by first | rfl | go_num, by omega, fun q hq => by
            by_cases e : q = k
            · rw [e]; exact HN.out
            · exact HNO.out q (by omega), HB2.out⟩
        case measure => simp [intOf]; omega
      · obtain ⟨g, o, L, cp, rfl, hL, h1, h2, _⟩ := hq.open'
        have HQ := Lib.hid hq
        have HCY := Lib.hid hcy
        have HL0 := Lib.hid hl0
        clear hq hcy hl0 hL h2
        go_wp2
        go_ret
        exact ⟨HB2.out, .inr ⟨_, l, C, rfl, HCY.out, by rw [HL0.out]; exact HNO.out, HQ.out.base HW.out.size⟩⟩
    · go_wp2
      go_ret
      exact ⟨HW.out, .inl ⟨rfl, fun ⟨p, hp, hw⟩ => HNO.out p (by omega) hw⟩⟩

/-! The chapter's example: two places, each leads to the other one. -/
def exZ (p _i : Nat) : Int := if p = 0 then 1 else 0
theorem ex_cyc {l : List Nat} (h : Cyc 2 (fun _ => 1) exZ l) (hno : ∀ q, q < nth l 0 → ¬ Way 2 (fun _ => 1) exZ q q) : l.length = 2 ∧ nth l 0 = 0 ∧ nth l 1 = 1 := by
  have e01 : Edge (fun _ => 1) exZ 0 1 := ⟨0, Nat.one_pos, rfl⟩
  have e10 : Edge (fun _ => 1) exZ 1 0 := ⟨0, Nat.one_pos, rfl⟩
  have w00 : Way 2 (fun _ => 1) exZ 0 0 := (Way.one (by omega) e01).snoc (by omega) e10
  have hp := h.pos
  have h0 : nth l 0 = 0 := by
    apply Classical.byContradiction
    intro hne
    exact hno 0 (by omega) w00
  have hle := nodup_le (n := 2) h.nodup (fun x hx => by obtain ⟨i, hi, e⟩ := mem_nth hx; rw [← e]; exact h.lt i hi)
  obtain ⟨i, _, hz⟩ := h.next 0 hp
  rw [h0] at hz
  have hz2 : ((nth l ((0 + 1) % l.length) : Nat) : Int) = 1 := hz.symm
  have hz' : nth l ((0 + 1) % l.length) = 1 := Int.ofNat.inj hz2
  by_cases e : l.length = 1
  · rw [e] at hz'
    rw [h0] at hz'; cases hz'
  · have e2 : l.length = 2 := by omega
    rw [e2] at hz'
    exact ⟨e2, h0, hz'⟩

/-- The example's edges in memory: three blocks. -/
theorem ex_rows (w : World) (T : TypeId) : Rows2 (((w.alloc (.cells #[.int .i64 1] 3)).alloc (.cells #[.int .i64 0] 3)).alloc (.cells #[.slice (some ⟨w.heap.size, 0, none⟩) 1 1, .slice (some ⟨w.heap.size + 1, 0, none⟩) 1 1] T)) (w.heap.size + 2) 0 2 (fun _ => 1) exZ := by
  obtain ⟨w1, h1⟩ : ∃ w1, w.alloc (.cells #[.int .i64 1] 3) = w1 := ⟨_, rfl⟩
  have s1 : w1.heap.size = w.heap.size + 1 := by rw [← h1]; simp
  have b1 : w1.heap[w.heap.size]? = some (.cells #[.int .i64 1] 3 (0, 0)) := by rw [← h1]; exact heap_alloc_new w _
  rw [h1]
  obtain ⟨w2, h2⟩ : ∃ w2, w1.alloc (.cells #[.int .i64 0] 3) = w2 := ⟨_, rfl⟩
  have s2 : w2.heap.size = w.heap.size + 2 := by rw [← h2]; simp; omega
  have b2 : w2.heap[w.heap.size + 1]? = some (.cells #[.int .i64 0] 3 (0, 0)) := by rw [← h2, ← s1]; exact heap_alloc_new w1 _
  have b1' : w2.heap[w.heap.size]? = some (.cells #[.int .i64 1] 3 (0, 0)) := by rw [← h2]; exact heap_below b1 ((Below.refl _ _).alloc (Nat.le_refl _) _)
  rw [h2]
  have b3 := heap_alloc_new w2 (.cells #[.slice (some ⟨w.heap.size, 0, none⟩) 1 1, .slice (some ⟨w.heap.size + 1, 0, none⟩) 1 1] T)
  have b4 := heap_below b1' ((Below.refl _ _).alloc (Nat.le_refl _) (.cells #[.slice (some ⟨w.heap.size, 0, none⟩) 1 1, .slice (some ⟨w.heap.size + 1, 0, none⟩) 1 1] T))
  have b5 := heap_below b2 ((Below.refl _ _).alloc (Nat.le_refl _) (.cells #[.slice (some ⟨w.heap.size, 0, none⟩) 1 1, .slice (some ⟨w.heap.size + 1, 0, none⟩) 1 1] T))
  rw [s2] at b3
  intro r hr
  refine ⟨by simp [maxLen], by simp; omega, ?_⟩
  match r, hr with
  | 0, _ =>
    refine ⟨some ⟨w.heap.size, 0, none⟩, 1, cells_get b3 0 rfl, Nat.le_refl _, fun i hi => ⟨by show (Lit.int IntKind.i64 1).wf = true; decide, w.heap.size, 0, rfl, by simp; omega, ?_⟩⟩
    have hi : i < 1 := hi
    obtain rfl : i = 0 := by omega
    exact cells_get b4 0 rfl
  | 1, _ =>
    refine ⟨some ⟨w.heap.size + 1, 0, none⟩, 1, cells_get b3 1 rfl, Nat.le_refl _, fun i hi => ⟨by show (Lit.int IntKind.i64 0).wf = true; decide, w.heap.size + 1, 0, rfl, by simp; omega, ?_⟩⟩
    have hi : i < 1 := hi
    obtain rfl : i = 0 := by omega
    exact cells_get b5 0 rfl

set_option maxHeartbeats 1600000 in
theorem fixed_any (w : World) : Calls Try.prog 5 #[] w fun e w' => e = .returned (.bool true) ∧ Below w.heap.size w w' := by
  have HR := Lib.hid (fun T => ex_rows w T)
  go_enter Try.func5, Try.ntmps5
  go_wp2_with fail
  refine (circle_any _ _ 2 _ (fun _ => 1) exZ (by omega) (.inr ⟨_, _, rfl, HR.out _⟩)).mono ?_
  rintro e w2 ⟨hb2, hres⟩
  have HB2 := Lib.hid hb2
  clear hb2
  rcases hres with ⟨rfl, hnot⟩ | ⟨v, l, C, rfl, hcy, hno, hq⟩
  · exact absurd (⟨0, by omega, (Way.one (by omega) ⟨0, Nat.one_pos, rfl⟩).snoc (t := 1) (by omega) ⟨0, Nat.one_pos, rfl⟩⟩ : Round 2 (fun _ => 1) exZ) hnot
  · obtain ⟨e1, e2, e3⟩ := ex_cyc hcy hno
    obtain ⟨g, o, L, cp, rfl, hL, h1, h2, hc⟩ := hq.open'
    rw [e1] at hL
    subst hL
    unfold maxLen at h2
    have c0 := hc 0 (by omega)
    have c1 := hc 1 (by omega)
    rw [Nat.add_zero, e2] at c0
    rw [e3] at c1
    clear hcy hno hq hc e1 e2 e3
    have c0 : w2.cell? ⟨g, o, none⟩ = some (.int .i64 0) := c0
    have c1 : w2.cell? ⟨g, o + 1, none⟩ = some (.int .i64 1) := c1
    go_wp2
    go_ret
    exact ⟨rfl, ((((Below.refl _ _).alloc (Nat.le_refl _) _).alloc (by simp) _).alloc (by simp; omega) _).trans (HB2.out.mono (by simp; omega))⟩

end Go.Proofs.Ytiimhndiifojnaa.Or
