/- Rows of numbers that come in. -/
import Derived.Test.YtiimhndiifojnaaOrCircle
import Derived.Deep.Matrix
import Derived.ChangeSame
import Derived.Lib.SmallJoins
namespace Go.Proofs.Ytiimhndiifojnaa.Or
open Go.RowKit Go.ChangeShapes Go.WideShapes Go.Deep Go.Joins

theorem addr_lit {w : World} {a : Addr} {v : Value} (h : w.cell? (a.add 0) = some v) : a = ⟨a.block, a.off, none⟩ ∧ a.block < w.heap.size ∧ ∀ j, a.add j = ⟨a.block, a.off + j, none⟩ := by
  obtain ⟨b, off, spot⟩ := a
  have hs : spot = none := by
    have := World.cell?_spot h
    simpa [Addr.add] using this
  subst hs
  refine ⟨rfl, ?_, fun j => Addr.add_mid _ _ _⟩
  have := World.block_lt_of_cell? w _ h
  rwa [Addr.add_mid] at this

/-- A slice of rows that came in. -/
def RowsIn (w : World) (A : Option Addr) (n cap : Nat) (l : (Nat → Nat) × (Nat → Nat → Int)) : Prop := n ≤ cap ∧ cap ≤ maxLen ∧ RowsAt w A n l.1 l.2

theorem open_rows {H : Type} {enc : TypeId × Value → H} {W : World} {base : Nat} {held : Bool} {fuel : Nat} {cs : List Value} {x : DataW H × List MemPlace}
    (h : DataW.trod enc Try.prog W base (fun _ => true) held fuel 22 cs = some x) : ∃ A n cap l, cs = [.slice A n cap] ∧ RowsIn W A n cap l := by
  rcases open_int_rows Try.underlying22 Try.underlying23 Try.underlying3 (by kernel_rfl) (by kernel_rfl) h with ⟨h0, _⟩ | ⟨a, len, cap, A, L, C, Zs, hcs, _, hl, hm, _, hi⟩
  · exact ⟨none, 0, 0, (fun _ => 0, fun _ _ => 0), h0, Nat.le_refl _, Nat.zero_le _, .inl rfl⟩
  · refine ⟨some a, len, cap, (L, fun r i => (Zs r).getD i 0), hcs, hl, hm, ?_⟩
    by_cases h0 : len = 0
    · exact .inl h0
    · right
      obtain ⟨e1, e2, e3⟩ := addr_lit (hi 0 (by omega)).1
      refine ⟨a.block, a.off, by rw [← e1], fun r hr => ?_⟩
      show L r ≤ maxLen ∧ a.block < W.heap.size ∧ ∃ x c, W.cell? ⟨a.block, a.off + r, none⟩ = some (.slice x (L r) c) ∧ L r ≤ c ∧ ∀ i, i < L r → (Lit.int .i64 ((Zs r).getD i 0)).wf = true ∧ ∃ bb oo, x = some ⟨bb, oo, none⟩ ∧ bb < W.heap.size ∧ W.cell? ⟨bb, oo + i, none⟩ = some (.int .i64 ((Zs r).getD i 0))
      obtain ⟨r1, r2, r3, r4, r5, r6, r7⟩ := hi r (by omega)
      rw [e3] at r1
      refine ⟨Nat.le_trans r2 r3, e2, A r, C r, r1, r2, fun i hil => ?_⟩
      have hiz : i < (Zs r).length := by omega
      refine ⟨?_, ?_⟩
      · rw [List.getD_eq_getElem?_getD, List.getElem?_eq_getElem hiz]; exact r5 _ (List.getElem_mem hiz)
      · cases hA : A r with
        | none => have := r6 hA; omega
        | some a' =>
          have hc := (r7 a' hA).2 i (by omega)
          obtain ⟨f1, f2, f3⟩ := addr_lit ((r7 a' hA).2 0 (by omega))
          exact ⟨a'.block, a'.off, by rw [← f1], f2, by rw [← f3]; exact hc⟩

end Go.Proofs.Ytiimhndiifojnaa.Or
