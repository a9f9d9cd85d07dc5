/- Blocks of the call's own that stay as they are: any number. (rec/XRcBxs.lean, for a seat without the texts of layer 9; and a store into one.) -/
import Derived.Test.YtdijkekglaimfaaGreatDoorRcOwn
namespace Go.Proofs.YtdijkekglaimfaaGreatDoor.Rc
open Go.RowKit

theorem below_alloc' (w : World) (o : Obj) : Below w.heap.size w (w.alloc o) := (Below.refl _ _).alloc (Nat.le_refl _) _
structure Bxs (w0 w1 : World) (l : List (Array Value × TypeId)) : Prop where
  bel : Below w0.heap.size w0 w1
  blk : ∀ j cs T, l[j]? = some (cs, T) → w1.heap[w0.heap.size + j]? = some (.cells cs T (0, 0))
section
variable {w0 w1 w2 : World} {l : List (Array Value × TypeId)}
theorem Bxs.get (h : Bxs w0 w1 l) (j i : Nat) {cs : Array Value} {T : TypeId} {v : Value} (hj : l[j]? = some (cs, T)) (hi : cs[i]? = some v) : w1.cell? ⟨w0.heap.size + j, i, none⟩ = some v := cells_get (h.blk j cs T hj) i hi
theorem Bxs.get0 (h : Bxs w0 w1 l) (i : Nat) {cs : Array Value} {T : TypeId} {v : Value} (hj : l[0]? = some (cs, T)) (hi : cs[i]? = some v) : w1.cell? ⟨w0.heap.size, i, none⟩ = some v := h.get 0 i hj hi
theorem Bxs.free (h : Bxs w0 w1 l) (j i : Nat) {cs : Array Value} {T : TypeId} (hj : l[j]? = some (cs, T)) : w1.frozen? ⟨w0.heap.size + j, i, none⟩ = false := cells_free (h.blk j cs T hj) i
theorem Bxs.step (h : Bxs w0 w1 l) (hb : Below w1.heap.size w1 w2) : Bxs w0 w2 l := ⟨h.bel.trans (hb.mono h.bel.size), fun j cs T hj => heap_below (h.blk j cs T hj) hb⟩
theorem Bxs.alloc (h : Bxs w0 w1 l) (o : Obj) : Bxs w0 (w1.alloc o) l := h.step (below_alloc' w1 o)
theorem Bxs.drewN (h : Bxs w0 w1 l) (n : Nat) : Bxs w0 (w1.drewN n) l := ⟨below_draws h.bel n, h.blk⟩
theorem Bxs.set (h : Bxs w0 w1 l) (j i : Nat) {cs : Array Value} {T : TypeId} (hj : l[j]? = some (cs, T)) (v : Value) : Bxs w0 (w1.setCell ⟨w0.heap.size + j, i, none⟩ v) (l.set j (cs.setIfInBounds i v, T)) :=
  ⟨h.bel.setCell (p := ⟨w0.heap.size + j, i, none⟩) (Nat.le_add_right _ _) _, fun j' cs' T' hj' => by
    have hjl := (List.getElem?_eq_some_iff.1 hj).1
    by_cases e : j' = j
    · subst e
      rw [List.getElem?_set_self hjl] at hj'
      cases hj'
      exact cells_set (h.blk _ _ _ hj) i v
    · rw [List.getElem?_set_ne (fun h => e h.symm)] at hj'
      exact heap_set_far (h.blk j' cs' T' hj') (by omega)⟩
theorem Bxs.grown {e : TypeId} {size m : Nat} {v : Value} {xs : List Value} (h : Bxs w0 w1 l) (hown : w1.ownsRow w0.heap.size e size v m xs) (hne : ∀ T ∈ l.map Prod.snd, e ≠ T) (hg : w1.grownBy w2 v.ownBlock) : Bxs w0 w2 l :=
  ⟨h.bel.grown hg h.bel.size (fun k hk => (hown.lt k hk).1), fun j cs T hj => heap_grown (h.blk j cs T hj) hg (fun e => own_apart hown (h.blk j cs T hj) (hne T (List.mem_map.2 ⟨(cs, T), List.mem_of_getElem? hj, rfl⟩)) e.symm)⟩
end
theorem Bxs.one (w : World) (cs : Array Value) (T : TypeId) : Bxs w (w.alloc (.cells cs T)) [(cs, T)] := by
  refine ⟨below_alloc' w _, fun j cs' T' hj => ?_⟩
  match j, hj with
  | 0, hj => simp at hj; obtain ⟨rfl, rfl⟩ := hj; exact heap_alloc_new w _
theorem Bxs.push {w0 w1 : World} {l : List (Array Value × TypeId)} (h : Bxs w0 w1 l) (hs : w1.heap.size = w0.heap.size + l.length) (cs : Array Value) (T : TypeId) : Bxs w0 (w1.alloc (.cells cs T)) (l ++ [(cs, T)]) := by
  refine ⟨(h.alloc _).bel, fun j cs' T' hj => ?_⟩
  by_cases hlt : j < l.length
  · rw [List.getElem?_append_left hlt] at hj
    exact (h.alloc _).blk j cs' T' hj
  · rw [List.getElem?_append_right (by omega)] at hj
    have : j = l.length := by
      have := (List.getElem?_eq_some_iff.1 hj).1
      simp at this; omega
    subst this
    simp at hj
    obtain ⟨rfl, rfl⟩ := hj
    rw [← hs]; exact heap_alloc_new w1 _
theorem Bxs.two (w : World) (cs : Array Value) (S : TypeId) (ds : Array Value) (T : TypeId) : Bxs w ((w.alloc (.cells cs S)).alloc (.cells ds T)) [(cs, S), (ds, T)] := (Bxs.one w cs S).push (by simp) ds T
theorem Bxs.three (w : World) (cs : Array Value) (S : TypeId) (ds : Array Value) (T : TypeId) (es : Array Value) (U : TypeId) : Bxs w (((w.alloc (.cells cs S)).alloc (.cells ds T)).alloc (.cells es U)) [(cs, S), (ds, T), (es, U)] := (Bxs.two w cs S ds T).push (by simp) es U

/-- What a call that answers a problem leaves. -/
def GivesP (r : Int × Int) (w : World) (e : Ending) (w' : World) : Prop := e = .returned (.agg #[.int .u8 r.1, .int .i64 r.2]) ∧ Below w.heap.size w w'
end Go.Proofs.YtdijkekglaimfaaGreatDoor.Rc
