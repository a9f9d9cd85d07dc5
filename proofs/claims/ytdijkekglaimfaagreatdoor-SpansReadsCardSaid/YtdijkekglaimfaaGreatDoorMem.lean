/- Small lemmas of my own on memory that a call has made: which blocks a call has written. -/
import Derived.Test.YtdijkekglaimfaaGreatDoorKit
import Derived.Maps.OwnOps
import Derived.Maps.Views
import Derived.Deep.AppendLies
import Derived.Deep.RegionLaw
import Derived.Deep.RegionHeld3
import Derived.StillTailTactics
import Derived.Deep.RegionWith
import Derived.DeepKeys4
namespace Go.Proofs.YtdijkekglaimfaaGreatDoor
open Go.RowKit

/-- From w to w' only the blocks of S, and new ones, have turned. -/
structure Touch (w w' : World) (S : Nat → Prop) : Prop where
  os : w'.os = w.os
  tape : w'.tape = w.tape
  output : w'.output = w.output
  size : w.heap.size ≤ w'.heap.size
  block : ∀ i, i < w.heap.size → ¬ S i → w'.heap[i]? = w.heap[i]?

theorem Touch.refl (w : World) (S : Nat → Prop) : Touch w w S := ⟨rfl, rfl, rfl, Nat.le_refl _, fun _ _ _ => rfl⟩
theorem Touch.of_below {w w' : World} {S : Nat → Prop} (h : Below w.heap.size w w') : Touch w w' S := ⟨h.os, h.tape, h.output, h.size, fun i hi _ => h.block i hi⟩
theorem Touch.of_grown {w w' : World} {S : Nat → Prop} {row : Option Nat} (h : w.grownBy w' row) (hr : ∀ i, row = some i → S i) : Touch w w' S :=
  ⟨h.os, h.tape, h.output, h.size, fun i hi hn => h.block i hi (fun e => hn (hr i e.symm))⟩
theorem Touch.trans {a b c : World} {S T : Nat → Prop} (h : Touch a b S) (k : Touch b c T) (hT : ∀ i, i < a.heap.size → T i → S i) : Touch a c S :=
  ⟨k.os.trans h.os, k.tape.trans h.tape, k.output.trans h.output, Nat.le_trans h.size k.size, fun i hi hn =>
    (k.block i (Nat.lt_of_lt_of_le hi h.size) (fun ht => hn (hT i hi ht))).trans (h.block i hi hn)⟩
theorem Touch.mono {a b : World} {S T : Nat → Prop} (h : Touch a b S) (hT : ∀ i, S i → T i) : Touch a b T := ⟨h.os, h.tape, h.output, h.size, fun i hi hn => h.block i hi (fun hs => hn (hT i hs))⟩
theorem Touch.below {B : Nat} {w w' : World} {S : Nat → Prop} (h : Touch w w' S) (hB : B ≤ w.heap.size) (hS : ∀ i, S i → B ≤ i) : Below B w w' :=
  ⟨h.os, h.tape, h.output, h.size, fun i hi => h.block i (by omega) (fun hs => by have := hS i hs; omega)⟩
theorem Touch.belows {B : Nat} {w0 w w' : World} {S : Nat → Prop} (h0 : Below B w0 w) (h : Touch w w' S) (hB : B ≤ w0.heap.size) (hS : ∀ i, S i → B ≤ i) : Below B w0 w' :=
  ⟨h.os.trans h0.os, h.tape.trans h0.tape, h.output.trans h0.output, Nat.le_trans h0.size h.size, fun i hi => (h.block i (by have := h0.size; omega) (fun hs => by have := hS i hs; omega)).trans (h0.block i hi)⟩
theorem Touch.nothing {w w' : World} (h : Touch w w' fun _ => False) : Below w.heap.size w w' := h.below (Nat.le_refl _) (fun _ h => h.elim)
theorem Touch.alloc {w w' : World} {S : Nat → Prop} (h : Touch w w' S) (o : Obj) : Touch w (w'.alloc o) S :=
  h.trans (T := fun _ => False) (Touch.of_grown (World.grownBy_alloc w' o Option.none) (fun _ h => by cases h)) (fun _ _ h => h.elim)
theorem Touch.drew {w w' : World} {S : Nat → Prop} (h : Touch w w' S) : Touch w w'.drew S := ⟨h.os, h.tape, h.output, h.size, h.block⟩
theorem Touch.drewN {w w' : World} {S : Nat → Prop} (h : Touch w w' S) (n : Nat) : Touch w (w'.drewN n) S := ⟨h.os, h.tape, h.output, h.size, h.block⟩
theorem Touch.set {w w' : World} {S : Nat → Prop} (h : Touch w w' S) (B j : Nat) (v : Value) (hB : S B) : Touch w (w'.setCell ⟨B, j, none⟩ v) S :=
  h.trans (T := S) (Touch.of_grown (grown_set w' B j v) (fun i e => by cases e; exact hB)) (fun _ _ h => h)

theorem grown_none {w w' : World} (h : Below w.heap.size w w') : w.grownBy w' none := ⟨h.os, h.tape, h.output, h.size, fun i hi _ => h.block i hi⟩

theorem lt_of_heap {w : World} {B : Nat} {o : Obj} (h : w.heap[B]? = some o) : B < w.heap.size := (Array.getElem?_eq_some_iff.1 h).1
theorem heap_below {w w' : World} {B : Nat} {o : Obj} (h : w.heap[B]? = some o) (hb : Below w.heap.size w w') : w'.heap[B]? = some o := (hb.block B (lt_of_heap h)).trans h
theorem heap_touch {w w' : World} {B : Nat} {o : Obj} {S : Nat → Prop} (h : w.heap[B]? = some o) (hb : Touch w w' S) (hS : ¬ S B) : w'.heap[B]? = some o := (hb.block B (lt_of_heap h) hS).trans h
theorem heap_grown {w w' : World} {B : Nat} {o : Obj} {row : Option Nat} (h : w.heap[B]? = some o) (hb : w.grownBy w' row) (hS : some B ≠ row) : w'.heap[B]? = some o := (hb.block B (lt_of_heap h) hS).trans h
theorem heap_set_far {w : World} {B C j : Nat} {v : Value} {o : Obj} (h : w.heap[B]? = some o) (hne : B ≠ C) : (w.setCell ⟨C, j, none⟩ v).heap[B]? = some o :=
  heap_grown h (grown_set w C j v) (by simpa using hne)

/-- A row of the call's own lies in no block of another element type. -/
theorem own_apart {w : World} {base n size g : Nat} {e t : TypeId} {v : Value} {xs : List Value} {cs : Array Value} {f : Nat × Nat} (h : w.ownsRow base e size v n xs) (hg : w.heap[g]? = some (.cells cs t f)) (hne : e ≠ t) : v.ownBlock ≠ some g := by
  rcases h.2 with ⟨rfl, _⟩ | ⟨g', cap, cur, rfl, _, hh, _⟩
  · simp [Value.ownBlock]
  · intro he
    obtain rfl : g' = g := by simpa [Value.ownBlock] using he
    rw [hg] at hh
    injection hh with hh
    injection hh with _ ht
    exact hne ht.symm

theorem own_apart_map {w : World} {base n size g : Nat} {e : TypeId} {v : Value} {xs : List Value} {es : Array MapEntry} {f : Nat} (h : w.ownsRow base e size v n xs) (hg : w.heap[g]? = some (.map es f)) : v.ownBlock ≠ some g := by
  rcases h.2 with ⟨rfl, _⟩ | ⟨g', cap, cur, rfl, _, hh, _⟩
  · simp [Value.ownBlock]
  · intro he
    obtain rfl : g' = g := by simpa [Value.ownBlock] using he
    rw [hg] at hh
    injection hh with hh
    cases hh

theorem own_touch {w w' : World} {base n size : Nat} {e : TypeId} {v : Value} {xs : List Value} {S : Nat → Prop} (h : w.ownsRow base e size v n xs) (ht : Touch w w' S) (hS : ∀ g, v.ownBlock = some g → ¬ S g) : w'.ownsRow base e size v n xs := by
  cases hv : v.ownBlock with
  | none =>
    rcases h.2 with ⟨rfl, rfl⟩ | ⟨g', cap, cur, rfl, _⟩
    · exact ⟨h.1, .inl ⟨rfl, rfl⟩⟩
    · simp [Value.ownBlock] at hv
  | some g =>
    -- another row than g has turned
    obtain ⟨r1, r2⟩ := h
    rcases r2 with ⟨rfl, _⟩ | ⟨g', cap, cur, rfl, hb, hh, hr⟩
    · simp [Value.ownBlock] at hv
    · obtain rfl : g' = g := by simpa [Value.ownBlock] using hv
      exact ⟨r1, .inr ⟨g', cap, cur, rfl, hb, heap_touch hh ht (hS g' hv), hr⟩⟩

/-- How many elements a row of the call's own has. -/
theorem own_len {w : World} {base n size : Nat} {e : TypeId} {v : Value} {xs : List Value} (h : w.ownsRow base e size v n xs) : v = .slice none 0 0 ∧ n = 0 ∨ ∃ g cap, v = .slice (some ⟨g, 0, none⟩) n cap := by
  rcases h.2 with ⟨h1, h2⟩ | ⟨g, cap, cur, rfl, _⟩
  · exact .inl ⟨h1, h2⟩
  · exact .inr ⟨g, cap, rfl⟩

end Go.Proofs.YtdijkekglaimfaaGreatDoor
