/- A row of numbers of the call's own that is cut at its head and appended to at its end. -/
import Derived.Test.YtggejmojbebhfaaNdMap
namespace Go.Proofs.Ytggejmojbebhfaa.Rc
open Go.RowKit

def TailI (w : World) (base : Nat) (v : Value) (l : List Int) : Prop :=
  (v = .slice none 0 0 ∧ l = []) ∨ ∃ g off cap cur, v = .slice (some ⟨g, off, none⟩) l.length cap ∧ base ≤ g ∧ w.heap[g]? = some (.cells cur 3 (0, 0)) ∧ l.length ≤ cap ∧ cap ≤ maxLen ∧ off + cap ≤ cur.size ∧ ∀ j, j < l.length → cur[off + j]? = some (encI (nth l j))
theorem TailI.nil (w : World) (base : Nat) : TailI w base (.slice none 0 0) [] := .inl ⟨rfl, rfl⟩
theorem TailI.touch {w w' : World} {base : Nat} {v : Value} {l : List Int} {S : Nat → Prop} (h : TailI w base v l) (ht : Touch w w' S) (hS : ∀ g, v.ownBlock = some g → ¬ S g) : TailI w' base v l := by
  rcases h with h | ⟨g, off, cap, cur, rfl, h1, h2, h3⟩
  · exact .inl h
  · exact .inr ⟨g, off, cap, cur, rfl, h1, heap_touch h2 ht (hS g rfl), h3⟩
theorem TailI.below {w w' : World} {base : Nat} {v : Value} {l : List Int} (h : TailI w base v l) (hb : Below w.heap.size w w') : TailI w' base v l := h.touch (Touch.of_below (S := fun _ => False) hb) (fun _ _ h => h)
theorem TailI.sl {w : World} {base : Nat} {v : Value} {l : List Int} (h : TailI w base v l) : ∃ A L c, v = .slice A L c := by
  rcases h with ⟨rfl, _⟩ | ⟨g, off, cap, cur, rfl, _⟩
  · exact ⟨_, _, _, rfl⟩
  · exact ⟨_, _, _, rfl⟩
theorem TailI.len {w : World} {base : Nat} {A : Option Addr} {L c : Nat} {l : List Int} (h : TailI w base (.slice A L c) l) : L = l.length ∧ L ≤ c ∧ c ≤ 9223372036854775807 := by
  rcases h with ⟨e, rfl⟩ | ⟨g, off, cap, cur, e, h1, h2, h3, h4, _⟩
  · injection e with e1 e2 e3
    subst e2; subst e3
    simp
  · injection e with e1 e2 e3
    subst e2; subst e3
    unfold maxLen at h4
    exact ⟨rfl, h3, by omega⟩
theorem TailI.lt {w : World} {base : Nat} {v : Value} {l : List Int} (h : TailI w base v l) (g : Nat) (hg : v.ownBlock = some g) : base ≤ g ∧ g < w.heap.size := by
  rcases h with ⟨rfl, _⟩ | ⟨g', off, cap, cur, rfl, h1, h2, _⟩
  · simp [Value.ownBlock] at hg
  · obtain rfl : g' = g := by simpa [Value.ownBlock] using hg
    exact ⟨h1, lt_of_heap h2⟩
theorem TailI.apart {w : World} {base g : Nat} {v : Value} {l : List Int} {cs : Array Value} {t : TypeId} {f : Nat × Nat} (h : TailI w base v l) (hg : w.heap[g]? = some (.cells cs t f)) (hne : 3 ≠ t) : v.ownBlock ≠ some g := by
  rcases h with ⟨rfl, _⟩ | ⟨g', off, cap, cur, rfl, _, hh, _⟩
  · simp [Value.ownBlock]
  · intro he
    obtain rfl : g' = g := by simpa [Value.ownBlock] using he
    rw [hg] at hh
    injection hh with hh
    injection hh with _ ht
    exact hne ht.symm
theorem TailI.apart_map {w : World} {base g : Nat} {v : Value} {l : List Int} {es : Array MapEntry} {f : Nat} (h : TailI w base v l) (hg : w.heap[g]? = some (.map es f)) : v.ownBlock ≠ some g := by
  rcases h with ⟨rfl, _⟩ | ⟨g', off, cap, cur, rfl, _, hh, _⟩
  · simp [Value.ownBlock]
  · intro he
    obtain rfl : g' = g := by simpa [Value.ownBlock] using he
    rw [hg] at hh
    injection hh with hh
    cases hh
/-- The first of it. -/
theorem TailI.head {w : World} {base : Nat} {A : Option Addr} {L c : Nat} {x : Int} {l : List Int} (h : TailI w base (.slice A L c) (x :: l)) :
    ∃ g off, A = some ⟨g, off, none⟩ ∧ w.cell? ⟨g, off, none⟩ = some (.int .i64 x) := by
  rcases h with ⟨_, e⟩ | ⟨g, off, cap, cur, e, h1, h2, h3, h4, h5, h6⟩
  · cases e
  · injection e with e1 e2 e3
    have := h6 0 (by simp)
    exact ⟨g, off, e1, cells_get h2 off (by simpa [nth] using this)⟩
/-- The rest of it. -/
theorem TailI.cut {w : World} {base : Nat} {A : Option Addr} {L c : Nat} {x : Int} {l : List Int} (h : TailI w base (.slice A L c) (x :: l)) : TailI w base (sliced A 1 L c 1) l ∧ (sliced A 1 L c 1).ownBlock = (Value.slice A L c).ownBlock := by
  rcases h with ⟨_, e⟩ | ⟨g, off, cap, cur, e, h1, h2, h3, h4, h5, h6⟩
  · cases e
  · injection e with e1 e2 e3
    subst e1; subst e2; subst e3
    have h3' : l.length + 1 ≤ c := h3
    by_cases hc : c = 1
    · subst hc
      have : l = [] := by
        cases l with
        | nil => rfl
        | cons y r => simp at h3
      subst this
      refine ⟨.inr ⟨g, off, 0, cur, by simp [sliced], h1, h2, by simp, by simp [maxLen], by omega, fun j hj => by simp at hj⟩, by simp [sliced, Value.ownBlock]⟩
    · refine ⟨.inr ⟨g, off + 1, c - 1, cur, by simp [sliced, hc, add_spot], h1, h2, by omega, by unfold maxLen at *; omega, by omega, fun j hj => ?_⟩, by simp [sliced, hc, Value.ownBlock, add_spot]⟩
      have := h6 (j + 1) (by simpa using hj)
      rw [show off + 1 + j = off + (j + 1) by omega, this]
      simp [nth]
/-- One more behind it. -/
theorem run_app_tail (w : World) (base : Nat) (v : Value) (l : List Int) (x : Int) (X : Nat) (h : TailI w base v l) (hX : w.heap[X]? = some (.cells #[.int .i64 x] 3 (0, 0))) (hl : l.length ≤ 200000) (hbase : base ≤ w.heap.size) :
    ∃ A n c w', (Builtin.append_ #[31, 31] 31 #[v, .slice (some ⟨X, 0, none⟩) 1 1]).run Try.prog w = .ok (.slice A n c) w' ∧ TailI w' base (.slice A n c) (l ++ [x]) ∧ w.grownBy w' v.ownBlock ∧
      ((Value.slice A n c).ownBlock = v.ownBlock ∨ ∃ g, (Value.slice A n c).ownBlock = some g ∧ w.heap.size ≤ g) := by
  obtain ⟨hs, z, m, hi, hzc, hzo, hm0, hm⟩ := oneInt
  obtain ⟨i0, hi0, hz0, hz1, hz2⟩ := info_parts hi
  have hnews : ∀ j u, ([encI x] : List Value)[j]? = some u → w.cell? ((⟨X, 0, none⟩ : Addr).add j) = some u := fun j y hj => by
    have : j = 0 := by have := (List.getElem?_eq_some_iff.1 hj).1; simp at this; omega
    subst this
    simp at hj; subst hj
    rw [Addr.add_mid]; exact cells_get hX 0 rfl
  have hb1 : (l.length + 1) * m ≤ 140737488355328 := by
    have := Nat.mul_le_mul_left (l.length + 1) hm
    omega
  have own : ∀ v' w', w'.ownsRow base 3 1 v' (l.length + 1) (l.map encI ++ [encI x]) → ∃ A n c, v' = .slice A n c ∧ TailI w' base (.slice A n c) (l ++ [x]) ∧ ∃ g, v'.ownBlock = some g := by
    intro v' w' hr
    rcases hr.2 with ⟨_, h0⟩ | ⟨g, cap, cur, rfl, hg, hh, h1, h2, h3, h4⟩
    · omega
    · refine ⟨_, _, _, rfl, .inr ⟨g, 0, cap, cur, by simp, hg, hh, by simpa using h1, h2, by omega, fun j hj => ?_⟩, g, rfl⟩
      have e1 : ((l ++ [x]).map encI)[j]? = some (encI (nth (l ++ [x]) j)) := by rw [List.getElem?_map, nth_get hj]; rfl
      rw [Nat.zero_add, ← Array.getElem?_toList]
      have e2 : l.map encI ++ [encI x] = (l ++ [x]).map encI := by simp
      rw [e2] at h4
      rw [← h4, List.getElem?_take] at e1
      split at e1
      · exact e1
      · cases e1
  rcases h with ⟨rfl, rfl⟩ | ⟨g, off, cap, cur, rfl, hg, hh, h1, h2, h3, h4⟩
  · obtain ⟨A, n, c, w', hrun, r1, r2⟩ := run_app_one oneInt w w.heap.size (.slice none 0 0) [] (encI x) X ⟨rfl, .inl ⟨rfl, rfl⟩⟩ hX rfl (by simp) (Nat.le_refl _)
    obtain ⟨A', n', c', e, r3, g, r4⟩ := own _ w' (by simpa using ownsRow_base r1 hbase)
    injection e with e1 e2 e3
    subst e1; subst e2; subst e3
    exact ⟨_, _, _, w', hrun, r3, r2, .inr ⟨g, r4, (World.ownsRow.lt r1 g r4).1⟩⟩
  · by_cases hr : l.length + 1 ≤ cap
    · have hsz : off + l.length < cur.size := by omega
      have hcell : w.cell? ⟨g, off + l.length, none⟩ = some cur[off + l.length] := cells_get hh _ (Array.getElem?_eq_getElem hsz)
      have hrun := run_append_room_cells (P := Try.prog) w 31 31 3 i0 hs hi0 g off l.length cap ⟨X, 0, none⟩ 1 1 [encI x] (by rw [hz1]; rfl) hnews (fun u hu => by simp at hu; subst hu; rfl) hr
        (fun j hj => by
          have : j = 0 := by simp at hj; omega
          subst this
          rw [hz1, Nat.mul_one, Nat.add_zero, hcell]; rfl) (fun j hj => by
          have : j = 0 := by simp at hj; omega
          subst this
          exact cells_free hh _)
      rw [hz1, Nat.mul_one] at hrun
      have hset := cells_set hh (off + l.length) (encI x)
      refine ⟨_, _, _, _, hrun, .inr ⟨g, off, cap, cur.setIfInBounds (off + l.length) (encI x), by simp, hg, hset, by simpa using hr, h2, by simpa using h3, fun j hj => ?_⟩, grown_set _ _ _ _, .inl rfl⟩
      rw [Array.getElem?_setIfInBounds]
      by_cases e : j = l.length
      · subst e
        rw [if_pos rfl, if_pos hsz]
        simp [nth]
      · have hj' : j < l.length := by simp at hj; omega
        rw [if_neg (by omega), h4 j hj']
        simp [nth, List.getElem?_append_left hj']
    · obtain ⟨v', w', hrun, r1, r2⟩ := run_append_arg_grows (P := Try.prog) w 31 31 3 i0 z 1 m hs hi0 hz0 hz1 hz2 hzc (by omega) ⟨g, off, none⟩ l.length cap (l.map encI) (by simp) (fun j u hj => by
          have hj' : j < l.length := by have := (List.getElem?_eq_some_iff.1 hj).1; simpa using this
          rw [add_spot rfl]
          rw [List.getElem?_map, nth_get hj'] at hj
          cases hj
          exact cells_get hh _ (h4 j hj')) ⟨X, 0, none⟩ 1 1 [encI x] rfl hnews (by omega) (by unfold maxLen; omega) hb1
      obtain ⟨A, n, c, rfl, r3, g', r4⟩ := own v' w' (ownsRow_base r1 hbase)
      exact ⟨A, n, c, w', hrun, r3, ⟨r2.os, r2.tape, r2.output, r2.size, fun i hi _ => r2.block i hi (by simp)⟩, .inr ⟨g', r4, (World.ownsRow.lt r1 g' r4).1⟩⟩
end Go.Proofs.Ytggejmojbebhfaa.Rc
