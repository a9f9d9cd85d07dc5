/- A set of numbers in a map of the call's own, and a row of numbers that is cut at its head and appended to at its end. -/
import Derived.Test.YtggejmojbebhfaaRcProv
import Derived.Maps.OwnSet
import Derived.Lib.SlKeysI
import Derived.ArgAppend
namespace Go.Proofs.Ytggejmojbebhfaa.Rc
open Go.RowKit Go.Maps Go.MapKept

/-- Block M is a set of the numbers of l. -/
def SetI (w : World) (M : Nat) (l : List Int) : Prop :=
  ∃ D : DataW Unit, w.ownsMap Try.prog 3 unitElem M l.length D ∧ CollectedI D (fun _ => false) l
theorem SetI.mk {w : World} {M : Nat} (h : w.heap[M]? = some (.map #[] 0)) : SetI w M [] :=
  ⟨.map [], ⟨#[], 0, h, ⟨by simp, stamped_empty 0, by simp⟩, Nat.le_refl _, rfl⟩, List.nodup_nil, fun x => by simp [has_eq]⟩
theorem SetI.touch {w w' : World} {M : Nat} {l : List Int} {S : Nat → Prop} (h : SetI w M l) (ht : Touch w w' S) (hS : ¬ S M) : SetI w' M l := by
  obtain ⟨D, h1, h2⟩ := h
  refine ⟨D, ?_, h2⟩
  obtain ⟨es, clock, hb, r⟩ := h1
  exact ⟨es, clock, heap_touch hb ht hS, r⟩
theorem SetI.below {w w' : World} {M : Nat} {l : List Int} (h : SetI w M l) (hb : Below w.heap.size w w') : SetI w' M l := h.touch (Touch.of_below (S := fun _ => False) hb) (fun h => h)
theorem SetI.map {w : World} {M : Nat} {l : List Int} (h : SetI w M l) : ∃ es cl, w.heap[M]? = some (.map es cl) := by
  obtain ⟨D, ⟨es, cl, hb, _⟩, _⟩ := h
  exact ⟨es, cl, hb⟩
theorem SetI.nodup {w : World} {M : Nat} {l : List Int} (h : SetI w M l) : l.Nodup := by
  obtain ⟨D, _, h2⟩ := h
  exact h2.1
/-- Is a number among them? -/
theorem SetI.look {w : World} {M : Nat} {l : List Int} (h : SetI w M l) {x : Int} (hx : (Lit.int .i64 x).wf = true) :
    (Instr.lookup 87 (.map (some M)) (.int .i64 x) true).run Try.prog w = .ok (.tuple #[.agg #[], .bool (decide (x ∈ l))]) w := by
  obtain ⟨D, h1, h2⟩ := h
  obtain ⟨v, ps, hrun, hv⟩ := h1.look_ok (int_keyed Try.underlying3) Try.underlying87 (z := .agg #[]) (by kernel_rfl) unitElem_mk (keyOf_int_mk Try.underlying3 hx)
  obtain ⟨rfl, _⟩ := unitElem_inv hv
  rw [hrun]
  have : has D (.int .i64 x) = decide (x ∈ l) := by
    rw [Bool.eq_iff_iff, decide_eq_true_iff, h2.2 x]
    simp
  rw [this]
/-- One more. -/
theorem SetI.put {w' : World} {M : Nat} {l : List Int} {D : DataW Unit} {x : Int} (hC : CollectedI D (fun _ => false) l) (hx : (Lit.int .i64 x).wf = true) (hn : x ∉ l) (hI : IsMap D)
    (h : w'.ownsMap Try.prog 3 unitElem M (l.length + 1) (D.put (.int .i64 x) (.agg []))) : SetI w' M (l ++ [x]) := by
  refine ⟨_, by rw [List.length_append]; exact h, ?_, fun y => ?_⟩
  · rw [List.nodup_append]
    refine ⟨hC.1, by simp, fun a ha b hb => ?_⟩
    simp at hb
    subst hb
    rintro rfl
    exact hn ha
  · by_cases e : y = x
    · subst e
      rw [has_put_same hI ((int_keyed Try.underlying3).key (keyOf_int_mk Try.underlying3 hx))]
      simp
    · rw [has_put_other (k := .int .i64 x) (k' := .int .i64 y) (by simpa using e), List.mem_append]
      have := hC.2 y
      simp at this
      simp [e, this]
end Go.Proofs.Ytggejmojbebhfaa.Rc
