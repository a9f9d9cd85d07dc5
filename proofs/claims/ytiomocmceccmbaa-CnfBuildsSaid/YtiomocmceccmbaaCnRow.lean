/- Rows of numbers in memory, and the shelf's contracts at them. -/
import Derived.Test.YtiomocmceccmbaaCnCmp
import Derived.Test.YtiomocmceccmbaaShelf
import Derived.Deep.MidRow
import Derived.Deep.Upon
namespace Go.Proofs.Ytiomocmceccmbaa.Cn
open Go.RowKit

/-- A slice of numbers that can be read; its cells lie at 'base' or behind. -/
def Row (w : World) (base : Nat) (v : Value) (zs : List Int) : Prop :=
  ∃ A c, v = .slice A zs.length c ∧ zs.length ≤ c ∧ c ≤ maxLen ∧ (zs = [] ∨ ∃ b off, A = some ⟨b, off, none⟩ ∧ base ≤ b ∧ b < w.heap.size ∧ ∀ j, j < zs.length → w.cell? ⟨b, off + j, none⟩ = some (.int .i64 (nthI zs j))) ∧
    ∀ x ∈ zs, -9223372036854775808 ≤ x ∧ x ≤ 9223372036854775807

theorem Row.below {w w' : World} {base : Nat} {v : Value} {zs : List Int} (h : Row w base v zs) (hb : Below w.heap.size w w') : Row w' base v zs := by
  obtain ⟨A, c, e, h1, h2, h3, h4⟩ := h
  refine ⟨A, c, e, h1, h2, h3.imp id fun ⟨b, off, ha, hB, hlt, hc⟩ => ⟨b, off, ha, hB, Nat.lt_of_lt_of_le hlt hb.size, fun j hj => (hb.cell (p := ⟨b, off + j, none⟩) hlt).trans (hc j hj)⟩, h4⟩
theorem Row.belows {w0 w w' : World} {base : Nat} {v : Value} {zs : List Int} (h : Row w base v zs) (hb : Below w0.heap.size w w') (hB : w.heap.size ≤ w0.heap.size) : Row w' base v zs := by
  obtain ⟨A, c, e, h1, h2, h3, h4⟩ := h
  refine ⟨A, c, e, h1, h2, h3.imp id fun ⟨b, off, ha, hB', hlt, hc⟩ => ⟨b, off, ha, hB', Nat.lt_of_lt_of_le hlt hb.size, fun j hj => (hb.cell (p := ⟨b, off + j, none⟩) (by simp; omega)).trans (hc j hj)⟩, h4⟩
theorem Row.touch {w w' : World} {base : Nat} {v : Value} {zs : List Int} {S : Nat → Prop} (h : Row w base v zs) (ht : Touch w w' S) (hS : ∀ b, S b → b < base) : Row w' base v zs := by
  obtain ⟨A, c, e, h1, h2, h3, h4⟩ := h
  refine ⟨A, c, e, h1, h2, h3.imp id fun ⟨b, off, ha, hB, hlt, hc⟩ => ⟨b, off, ha, hB, Nat.lt_of_lt_of_le hlt ht.size, fun j hj => ?_⟩, h4⟩
  rw [World.cell?_of_block (a := ⟨b, off + j, none⟩) (ht.block b hlt fun hs => by have := hS b hs; omega)]
  exact hc j hj
theorem Row.base {w : World} {base base' : Nat} {v : Value} {zs : List Int} (h : Row w base v zs) (hb : base' ≤ base) : Row w base' v zs := by
  obtain ⟨A, c, e, h1, h2, h3, h4⟩ := h
  exact ⟨A, c, e, h1, h2, h3.imp id fun ⟨b, off, ha, hB, hr⟩ => ⟨b, off, ha, by omega, hr⟩, h4⟩
theorem Row.bounds {w : World} {base : Nat} {v : Value} {zs : List Int} (h : Row w base v zs) : ∀ x ∈ zs, -9223372036854775808 ≤ x ∧ x ≤ 9223372036854775807 := by
  obtain ⟨A, c, e, h1, h2, h3, h4⟩ := h; exact h4

/-- As the walk wants it. -/
theorem Row.open' {w : World} {base : Nat} {v : Value} {zs : List Int} (h : Row w base v zs) : ∃ A L c, v = .slice A L c ∧ L = zs.length ∧ L ≤ c ∧ c ≤ maxLen ∧
    (0 < L → ∃ b off, A = some ⟨b, off, none⟩ ∧ base ≤ b ∧ b < w.heap.size ∧ ∀ j, j < L → w.cell? ⟨b, off + j, none⟩ = some (.int .i64 (nthI zs j)) ∧ -9223372036854775808 ≤ nthI zs j ∧ nthI zs j ≤ 9223372036854775807) := by
  obtain ⟨A, c, e, h1, h2, h3, h4⟩ := h
  refine ⟨A, _, c, e, rfl, h1, h2, fun hp => ?_⟩
  rcases h3 with rfl | ⟨b, off, ha, hB, hlt, hc⟩
  · simp at hp
  · exact ⟨b, off, ha, hB, hlt, fun j hj => ⟨hc j hj, h4 _ (nthI_mem hj)⟩⟩

theorem nthI_bang (zs : List Int) (j : Nat) (hj : j < zs.length) : zs[j]! = nthI zs j := by unfold nthI; simp [List.getD_eq_getElem?_getD, hj]
theorem nthI_getD (zs : List Int) (j : Nat) : zs.getD j 0 = nthI zs j := rfl

theorem allLiterals_any (w : World) (base : Nat) (v : Value) (zs : List Int) (h : Row w base v zs) :
    Calls Try.prog 28 #[v] w fun e w' => e = .returned (.bool (zs.all litB)) ∧ ∃ q, w' = w.drewN q := by
  obtain ⟨r, hr⟩ : ∃ r, zs.all litB = r := ⟨_, rfl⟩
  rw [hr]
  obtain ⟨A, L, c, rfl, hL, h1, h2, h3⟩ := h.open'
  have hc : Calls Try.prog 37 #[.slice A L c, .func (.func 43) #[] #[]] w fun e w' => e = .returned (.bool (!r)) ∧ ∃ q, w' = w.drewN q := by
    by_cases h0 : 0 < L
    · obtain ⟨b, off, rfl, _, _, hcell⟩ := h3 h0
      have := Try.slices_ContainsFunc (Value.int .i64) (fun x => !litB x) 43 #[] (enters_of Try.func43 (by kernel_rfl) rfl) b off L c zs w
        (fun W x _ => (notLiteral_any x W).mono fun _ _ ⟨he, hw⟩ => ⟨he, 0, hw.symm⟩) (by omega) (by unfold maxLen at h2; omega) (fun j hj => by rw [nthI_bang zs j hj]; exact (hcell j (by omega)).1)
      refine this.mono fun e w' ⟨he, hw⟩ => ⟨?_, hw⟩
      rw [he, ← hr, hL, List.take_length]
      congr 2
      rw [List.not_all_eq_any_not]
    · have e0 : L = 0 := by omega
      subst e0
      have ez : zs = [] := List.eq_nil_of_length_eq_zero hL.symm
      subst ez
      refine (Try.slices_ContainsFunc_empty (α := Int) A c _ w).mono fun e w' ⟨he, hw⟩ => ⟨?_, 0, hw⟩
      rw [he, ← hr]; rfl
  clear h3 h hL hr h1 h2
  go_enter Try.func28, Try.ntmps28
  go_wp2_with (go_at_call 37; refine hc.mono ?_; rintro e w' ⟨rfl, q, rfl⟩)
  go_ret
  exact ⟨by simp, q, rfl⟩

end Go.Proofs.Ytiomocmceccmbaa.Cn
