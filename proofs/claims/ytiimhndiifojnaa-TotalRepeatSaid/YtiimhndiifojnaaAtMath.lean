/- Atoms as plain data, and the place of one among others. -/
import Derived.Test.YtiimhndiifojnaaRows
import Derived.Test.YtiimhndiifojnaaMem
namespace Go.Proofs.Ytiimhndiifojnaa.At
open Go.RowKit

structure Atom where
  k : Int
  a : Int
  b : Int
  c : Int
  deriving DecidableEq

def Atom.val (x : Atom) : Value := .agg #[.int .u8 x.k, .int .i64 x.a, .int .i64 x.b, .int .i64 x.c]
def Atom.cells (x : Atom) : List Value := [.int .u8 x.k, .int .i64 x.a, .int .i64 x.b, .int .i64 x.c]
def Atom.wf (x : Atom) : Prop := (Lit.int .u8 x.k).wf = true ∧ (Lit.int .i64 x.a).wf = true ∧ (Lit.int .i64 x.b).wf = true ∧ (Lit.int .i64 x.c).wf = true

/-- The place of an atom among others, from 1 on; 0, if it isn't there. -/
def place : List Atom → Atom → Nat
  | [], _ => 0
  | y :: l, x => if y = x then 1 else if place l x = 0 then 0 else place l x + 1

theorem place_le : ∀ (l : List Atom) (x : Atom), place l x ≤ l.length
  | [], _ => Nat.le_refl _
  | y :: l, x => by
    have := place_le l x
    simp only [place, List.length_cons]
    split
    · omega
    · split <;> omega

theorem place_snoc (y : Atom) : ∀ (l : List Atom) (x : Atom), place (l ++ [y]) x = if place l x ≠ 0 then place l x else if y = x then l.length + 1 else 0
  | [], x => by simp [place]
  | z :: l, x => by
    simp only [List.cons_append, place, place_snoc y l x]
    by_cases h : z = x
    · simp [h]
    · simp only [h, if_false]
      by_cases h2 : place l x = 0
      · simp only [h2]
        by_cases h3 : y = x <;> simp [h3]
      · simp [h2]

/-! What an atom reads as, as a key. -/
theorem laidOut : laidOutB Try.prog = true := by kernel_rfl
theorem keyRow : (47 : TypeId) < Try.prog.types.size := of_decide_eq_true (by kernel_rfl)
theorem law : Go.Maps.Keyed Try.prog 47 := Go.Maps.Keyed.of_law (deep_law_laid laidOut (m := 2) (by omega) keyRow (by kernel_rfl) (by kernel_rfl))

theorem key_of (x : Atom) (h : x.wf) : ∃ l, keyOf Try.prog 47 x.val = some l := by
  obtain ⟨h1, h2, h3, h4⟩ := h
  have e1 : Try.prog.keyType 47 = true := by kernel_rfl
  have e2 : Try.prog.cellsOf 47 = 4 := by kernel_rfl
  have e3 : Try.prog.cellsOf 5 = 1 := by kernel_rfl
  have e4 : Try.prog.cellsOf 3 = 1 := by kernel_rfl
  have e5 : x.val.formed Try.prog 47 = true := by
    simp [Atom.val, Value.formed, Try.underlying47, e2]
  obtain ⟨n, hn⟩ : ∃ n, Try.prog.types.size + 1 = n + 2 := ⟨Try.prog.types.size - 1, by have h0 : 0 < Try.prog.types.size := of_decide_eq_true (by kernel_rfl); omega⟩
  unfold keyOf
  simp only [Try.underlying47, e1, e5, Bool.and_self, if_true, hn]
  simp [Program.keyLits, Try.underlying47, Try.underlying5, Try.underlying3, e2, e3, e4, Atom.val, Value.cells, h1, h2, h3, h4]

theorem val_inj {x y : Atom} (h : x.val = y.val) : x = y := by
  cases x; cases y
  simp [Atom.val] at h
  simp [h]

end Go.Proofs.Ytiimhndiifojnaa.At
