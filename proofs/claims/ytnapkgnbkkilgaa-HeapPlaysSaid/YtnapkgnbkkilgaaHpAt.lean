/- The calls of a heap that keeps its order. -/
import Derived.Test.YtnapkgnbkkilgaaHpInv2
import Derived.Test.YtnapkgnbkkilgaaHpNil
namespace Go.Proofs.Ytnapkgnbkkilgaa.Hp
open Go.RowKit

/-- A heap that keeps its order, in blocks of its own. -/
def Heap (w : World) (base B S P : Nat) (v : Value) (sc row pl : List Nat) : Prop := Hp w base B S P v sc row pl ∧ Inv sc row pl

theorem Heap.below {w w' : World} {base B S P : Nat} {v : Value} {sc row pl : List Nat} (h : Heap w base B S P v sc row pl) (hb : Below w.heap.size w w') : Heap w' base B S P v sc row pl := ⟨h.1.below hb, h.2⟩
theorem few_of : ∀ (n : Nat) (l : List Nat), l.Nodup → (∀ x ∈ l, x < n) → l.length ≤ n
  | 0, l, _, h => by
    cases l with
    | nil => simp
    | cons x l => exact absurd (h x (by simp)) (by omega)
  | n + 1, l, hn, h => by
    have h2 := few_of n (l.erase n) (hn.sublist List.erase_sublist) (fun x hx => by
      have hm := List.erase_sublist.subset hx
      have := h x hm
      have hne : x ≠ n := fun e => by
        subst e
        exact (hn.not_mem_erase) hx
      omega)
    have := List.length_erase (a := n) (l := l)
    split at this <;> omega

theorem Heap.row_le {w : World} {base B S P : Nat} {v : Value} {sc row pl : List Nat} (h : Heap w base B S P v sc row pl) (h0 : 0 ∉ row) : row.length ≤ 65536 := by
  have hf := h.1.few
  have hn : (0 :: row).Nodup := List.nodup_cons.2 ⟨h0, h.2.valid.2⟩
  have := few_of (max 1 sc.length) (0 :: row) hn (fun x hx => by
    rcases List.mem_cons.1 hx with rfl | hx
    · omega
    · have := h.2.valid.1 x hx; omega)
  rw [List.length_cons] at this
  omega

theorem heap_new (w : World) (x : Int) (n : Nat) (hx : x = n) (hn : n ≤ 65536) :
    Calls Try.prog 8 #[.int .i64 x] w fun e w' => ∃ B S P v, e = .returned (.pointer (some ⟨B, 0, none⟩)) ∧
      Heap w' w.heap.size B S P v (List.replicate (n + 1) 0) (List.range' 1 n) (List.range (n + 1)) ∧ Below w.heap.size w w' := by
  subst hx
  exact (new_is w n hn).mono fun e w' ⟨B, S, P, v, h1, h2, h3⟩ => ⟨B, S, P, v, h1, ⟨h2, new_inv n⟩, h3⟩

theorem heap_bump (w : World) (base B S P : Nat) (v : Value) (sc row pl : List Nat) (h : Heap w base B S P v sc row pl) (h0 : 0 ∉ row) (a d : Nat) (x y : Int) (hx : x = a) (hy : y = d) (h1 : 1 ≤ a) (ha : a < sc.length) (hd : at' sc a + d ≤ 4611686018427387904) :
    Calls Try.prog 9 #[.pointer (some ⟨B, 0, none⟩), .int .i64 x, .int .u64 y] w fun e w' => e = .returned (.tuple #[]) ∧
      ∃ row' pl', Heap w' base B S P v (sc.set a (at' sc a + d)) row' pl' ∧ row'.Perm row ∧ Touch w w' (Foot S P v) := by
  subst hx; subst hy
  have la : a < pl.length := by rw [h.2.pla.1]; exact ha
  have hz : at' pl a ≤ row.length := by
    rcases Classical.em (a ∈ row) with hm | hm
    · obtain ⟨p, hp, e⟩ := mem_at hm
      have := h.2.pla.2.1 p hp
      rw [e] at this; omega
    · have := h.2.pla.2.2 a ha hm; omega
  have hi := bump_inv h.2 (d := d) ha
  refine (bump_is w base B S P v sc row pl h.1 h.2.valid a (at' pl a) (at' sc a) d (at_get la) (at_get ha) h1 hz hd (h.row_le h0)).mono ?_
  rintro e w' ⟨rfl, h2, t⟩
  refine ⟨rfl, _, _, ⟨?_, hi.1⟩, hi.2, t⟩
  unfold bumped
  by_cases hz2 : 0 < at' pl a
  · rw [if_pos hz2] at h2 ⊢; rw [if_pos hz2] at h2; exact h2
  · rw [if_neg hz2] at h2 ⊢; rw [if_neg hz2] at h2; exact h2

theorem heap_pop (w : World) (base B S P : Nat) (v : Value) (sc row pl : List Nat) (h : Heap w base B S P v sc row pl) (h0 : 0 ∉ row) (h1 : 1 ≤ row.length) :
    Calls Try.prog 13 #[.pointer (some ⟨B, 0, none⟩)] w fun e w' => ∃ a : Nat, e = .returned (.int .i64 (a : Int)) ∧ a ∈ row ∧ (∀ x ∈ row, ¬ Lt sc x a) ∧
      ∃ v' row' pl', Heap w' base B S P v' sc row' pl' ∧ row.Perm (a :: row') ∧ v'.ownBlock = v.ownBlock ∧ Touch w w' (fun i => i = B ∨ i = P ∨ v.ownBlock = some i) := by
  have hi := pop_inv h.2 h1
  refine (pop_is w base B S P v sc row pl h.1 h.2.valid h1 (h.row_le h0)).mono ?_
  rintro e w' ⟨rfl, v', h2, h3, t⟩
  exact ⟨_, rfl, at_mem h1, h.2.first, v', _, _, ⟨h2, hi.1⟩, hi.2, h3, t⟩

theorem Heap.still {w0 w w' : World} {base B S P : Nat} {v : Value} {sc row pl : List Nat} {F : Nat → Prop} (h : Heap w base B S P v sc row pl) (ht : Touch w w' F) (hF : ∀ i, F i → i = B ∨ i = S ∨ i = P ∨ v.ownBlock = some i) (hb : Below base w0 w) (h0 : base ≤ w0.heap.size) : Below base w0 w' :=
  h.1.still ht hF hb h0

end Go.Proofs.Ytnapkgnbkkilgaa.Hp
