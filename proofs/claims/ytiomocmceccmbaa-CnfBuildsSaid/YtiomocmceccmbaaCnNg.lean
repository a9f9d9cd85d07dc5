/- Opposites of any numbers; a builder beside other rows. -/
import Derived.Test.YtiomocmceccmbaaCnStep
namespace Go.Proofs.Ytiomocmceccmbaa.Cn
open Go.RowKit

/-- The opposite as the machine has it: the least number is its own. -/
def ng (x : Int) : Int := wrap64 (-x)
theorem ng_in (x : Int) : -9223372036854775808 ≤ ng x ∧ ng x ≤ 9223372036854775807 := by unfold ng wrap64; omega
theorem ng_wrap (x : Int) : IntKind.i64.wrap (-x) = ng x := by rw [IntKind.wrap_i64]; unfold ng wrap64; omega
theorem ng_of {x : Int} (h1 : -9223372036854775807 ≤ x) (h2 : x ≤ 9223372036854775808) : ng x = -x := by unfold ng wrap64; omega

structure Side2 (w0 : World) (v0 : Value) (vs0 : List Value) (ls0 : List (List Int)) (w : World) (base B : Nat) (a : Value) (ba : Nat) (zs : List Int) (v : Value) (vs : List Value) (ls : List (List Int)) (bad : Bool) : Prop where
  step : Step w0 v0 vs0 ls0 w base B v vs ls bad
  side : Beside w B v a ba zs

theorem Side2.start {w : World} {base B ba : Nat} {v a : Value} {zs : List Int} {vs : List Value} {ls : List (List Int)} {bad : Bool} (h : Bld w base B v vs ls bad false) (k : Beside w B v a ba zs) : Side2 w v vs ls w base B a ba zs v vs ls bad :=
  ⟨Step.of_below h (Below.refl _ _), k⟩
theorem Side2.below {w0 w w' : World} {v0 a v : Value} {base B ba : Nat} {zs : List Int} {vs0 vs : List Value} {ls0 ls : List (List Int)} {bad : Bool} (h : Side2 w0 v0 vs0 ls0 w base B a ba zs v vs ls bad) (hb : Below w.heap.size w w') : Side2 w0 v0 vs0 ls0 w' base B a ba zs v vs ls bad :=
  ⟨h.step.trans (Step.of_below h.step.bld hb), h.side.below hb⟩
theorem Side2.add {w0 w w' : World} {v0 a v : Value} {base B ba k : Nat} {zs : List Int} {P : List (List Int)} {vs0 vs : List Value} {ls0 ls : List (List Int)} {bad : Bool} {e : Ending} (h : Side2 w0 v0 vs0 ls0 w base B a ba zs v vs ls bad) (hp : OpPost w base B v vs ls bad P k e w') :
    e = .returned (.tuple #[]) ∧ ∃ v' vs' ls' bad', Adds P ls bad ls' bad' ∧ Step w v vs ls w' base B v' vs' ls' bad' ∧ ls'.length ≤ ls.length + k ∧ Side2 w0 v0 vs0 ls0 w' base B a ba zs v' vs' ls' bad' := by
  obtain ⟨he, v', vs', ls', bad', h1, h2, h3⟩ := hp
  exact ⟨he, v', vs', ls', bad', h1, h2, h3, h.step.trans h2, h.side.step h2⟩

/-- Another row is written: the builder stays. -/
theorem Bld.other {w w' : World} {base B : Nat} {v : Value} {vs : List Value} {ls : List (List Int)} {bad : Bool} {S : Nat → Prop} (h : Bld w base B v vs ls bad false) (ht : Touch w w' S) (hB : ¬ S B) (hv : ∀ g, v.ownBlock = some g → ¬ S g) (hr : RowsOf w base S vs ls) : Bld w' base B v vs ls bad false :=
  ⟨heap_touch h.head ht hB, own_touch h.own ht hv, hr.keep h.rows ht (fun _ h => h), h.least, h.few⟩
theorem Side2.other {w0 w w' : World} {v0 a v : Value} {base B ba : Nat} {zs : List Int} {vs0 vs : List Value} {ls0 ls : List (List Int)} {bad : Bool} {S : Nat → Prop} (h : Side2 w0 v0 vs0 ls0 w base B a ba zs v vs ls bad) (ht : Touch w w' S) (hS : ∀ b, S b → w0.heap.size ≤ b) (hB : B < w0.heap.size)
    (hv : ∀ g, v.ownBlock = some g → ¬ S g) (hr : RowsOf w base S vs ls) (ha : zs ≠ [] → ∀ b, a.ownBlock = some b → b < w0.heap.size) : Side2 w0 v0 vs0 ls0 w' base B a ba zs v vs ls bad := by
  refine ⟨⟨h.step.bld.other ht (fun hb => ?_) hv hr, h.step.touch.trans ht (fun i hi hs => ?_), h.step.own, fun G hG hg => hr.keep (h.step.frame G hG hg) ht (fun _ h => h)⟩, h.side.row.touchs ht (fun hne b hb hs => ?_), h.side.apart⟩
  · have := hS B hb; omega
  · have := hS i hs; omega
  · have := hS b hs; have := ha hne b hb; omega

theorem RowsOf.moved {W w' : World} {base : Nat} {v v' : Value} {vs : List Value} {ls : List (List Int)} (h : RowsOf W base (fun b => v.ownBlock = some b) vs ls) (ht : Touch W w' (fun b => v.ownBlock = some b)) (hat : v'.ownBlock = v.ownBlock ∨ v'.ownBlock = some W.heap.size) : RowsOf w' base (fun b => v'.ownBlock = some b) vs ls := by
  rcases hat with e | e
  · rw [e]; exact h.keep h ht (fun _ h => h)
  · exact h.keep (h.weak (fun b hb hg => by rw [e] at hg; injection hg with hg; omega)) ht (fun _ h => h)

theorem Own.least {w : World} {base : Nat} {v : Value} {zs : List Int} (h : Own w base v zs) : ∀ g, v.ownBlock = some g → base ≤ g ∧ g < w.heap.size := fun g hg => h.lt g hg
theorem Own.apartB {w : World} {base base' B : Nat} {v u : Value} {zs : List Int} {us : List Value} {ls : List (List Int)} {bad : Bool} (h : Own w base v zs) (hb : Bld w base' B u us ls bad false) : ∀ g, v.ownBlock = some g → ¬ u.ownBlock = some g := by
  rcases h.2 with ⟨rfl, _⟩ | ⟨g, cap, cur, rfl, hg, hh, _⟩
  · intro g hg; cases hg
  · intro g' hg'
    simp [Value.ownBlock] at hg'
    subst hg'
    exact own_apart hb.own hh (by decide)

/-- A row of the call's own beside a builder. -/
structure Last (w0 w : World) (base : Nat) (t : Value) (ts : List Int) (vs : List Value) (ls : List (List Int)) : Prop where
  own : Own w w0.heap.size t ts
  rows : RowsOf w base (fun b => t.ownBlock = some b) vs ls

theorem Last.below {w0 w w' : World} {base : Nat} {t : Value} {ts : List Int} {vs : List Value} {ls : List (List Int)} (h : Last w0 w base t ts vs ls) (hb : Below w.heap.size w w') : Last w0 w' base t ts vs ls := ⟨h.own.below hb, h.rows.below hb⟩
theorem Last.step {w0 w w' : World} {base B : Nat} {t v v' : Value} {ts : List Int} {vs vs' : List Value} {ls ls' : List (List Int)} {bad bad' : Bool} (h : Last w0 w base t ts vs ls) (hb : Bld w base B v vs ls bad false) (hB : B < w0.heap.size) (k : Step w v vs ls w' base B v' vs' ls' bad') : Last w0 w' base t ts vs' ls' := by
  refine ⟨h.own.touch k.touch (fun g hg hs => ?_), k.frame _ (fun b hb' => (h.own.least b hb').2) h.rows⟩
  rcases hs with e | e
  · have := (h.own.least g hg).1; omega
  · exact h.own.apartB hb g hg e
theorem Last.app {w0 w w' : World} {base : Nat} {t t' : Value} {ts ts' : List Int} {vs : List Value} {ls : List (List Int)} (h : Last w0 w base t ts vs ls) (ho : Own w' w0.heap.size t' ts') (hg : w.grownBy w' t.ownBlock) (hat : t'.ownBlock = t.ownBlock ∨ t'.ownBlock = some w.heap.size) : Last w0 w' base t' ts' vs ls :=
  ⟨ho, h.rows.moved (Touch.of_grown hg (fun _ h => h)) hat⟩

end Go.Proofs.Ytiomocmceccmbaa.Cn
