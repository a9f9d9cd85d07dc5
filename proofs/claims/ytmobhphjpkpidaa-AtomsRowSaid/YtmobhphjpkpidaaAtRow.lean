/- AtomsRow: each atom gets the number of its first place. -/
import Derived.Test.YtmobhphjpkpidaaAtMore
import Derived.Test.YtmobhphjpkpidaaAtNil
import Derived.Deep.Slices
import Derived.ChangeSame
import Derived.Lib.SmallJoins
namespace Go.Proofs.Ytmobhphjpkpidaa.At
open Go.RowKit Go.ChangeShapes Go.WideShapes Go.Deep Go.Joins

def IsAtoms (w : World) (A : Option Addr) (len cap : Nat) (l : List Atom) : Prop := l.length = len ∧ len ≤ cap ∧ cap ≤ maxLen ∧ (∀ x ∈ l, x.wf) ∧ Row w A l

theorem add_spot {a : Addr} (h : a.spot = none) (j : Nat) : a.add j = ⟨a.block, a.off + j, none⟩ := by
  obtain ⟨b, off, s⟩ := a
  simp at h; subst h
  unfold Addr.add; split <;> simp_all

theorem open_atoms {H : Type} {enc : TypeId × Value → H} {W : World} {base : Nat} {spare : Nat → Bool} {held : Bool} {fuel : Nat} {cs : List Value} {x : DataW H × List MemPlace}
    (h : DataW.trod enc Try.prog W base spare held fuel 31 cs = some x) : ∃ A len cap l, cs = [.slice A len cap] ∧ IsAtoms W A len cap l := by
  rcases open_slice Try.underlying31 h with ⟨h0, _⟩ | ⟨a, len, cap, m, n, D, Pl, hcs, _, hl, hm, hmm, _, hi⟩
  · exact ⟨none, 0, 0, [], h0, rfl, Nat.le_refl _, Nat.zero_le _, by simp, fun i x hx => by simp at hx⟩
  · have hlm : len ≤ m := by rw [hmm]; split <;> omega
    have e2 : Try.prog.cellsOf 23 = 4 := by kernel_rfl
    have e3 : Try.prog.cellsOf 5 = 1 := by kernel_rfl
    have e4 : Try.prog.cellsOf 3 = 1 := by kernel_rfl
    have hs0 : 0 < len → a.spot = none := fun h0 => by
      obtain ⟨cs', hc, ht⟩ := hi 0 (by omega)
      rw [e2] at hc
      obtain ⟨_, hcl, hat⟩ := World.cells?_some hc
      have c0 := hat 0 (by omega)
      rw [List.getElem?_eq_getElem (by omega)] at c0
      simpa [Addr.add] using World.cell?_spot c0
    have hx : ∀ i, ∃ x : Atom, i < len → x.wf ∧ a.spot = none ∧ a.block < W.heap.size ∧ W.cell? ⟨a.block, a.off + i * 4, none⟩ = some (.int .u8 x.k) ∧ W.cell? ⟨a.block, a.off + i * 4 + 1, none⟩ = some (.int .i64 x.a) ∧ W.cell? ⟨a.block, a.off + i * 4 + 2, none⟩ = some (.int .i64 x.b) ∧ W.cell? ⟨a.block, a.off + i * 4 + 3, none⟩ = some (.int .i64 x.c) := by
      intro i
      by_cases hil : i < len
      · obtain ⟨cs', hc, ht⟩ := hi i (by omega)
        rw [e2] at hc
        obtain ⟨_, hcl, hat⟩ := World.cells?_some hc
        obtain ⟨y0, y1, y2, y3, n', _, hlen, h0, h1, h2, h3⟩ := trod_struct4 Try.underlying23 ht
        rw [e2] at hlen
        match cs', hlen with
        | [v0, v1, v2, v3], _ =>
          simp only [e3, e4, List.drop_zero, List.drop_succ_cons, List.take_succ_cons, List.take_zero] at h0 h1 h2 h3
          obtain ⟨z0, q0, _, w0⟩ := DataW.trod_int Try.underlying5 h0
          obtain ⟨z1, q1, _, w1⟩ := DataW.trod_int Try.underlying3 h1
          obtain ⟨z2, q2, _, w2⟩ := DataW.trod_int Try.underlying3 h2
          obtain ⟨z3, q3, _, w3⟩ := DataW.trod_int Try.underlying3 h3
          simp at q0 q1 q2 q3
          subst q0; subst q1; subst q2; subst q3
          have c0 := hat 0 (by omega)
          have c1 := hat 1 (by omega)
          have c2 := hat 2 (by omega)
          have c3 := hat 3 (by omega)
          simp at c0 c1 c2 c3
          have hs : a.spot = none := hs0 (by omega)
          have hb : a.block < W.heap.size := by
            have := World.block_lt_of_cell? W _ c0
            rw [add_spot hs, add_spot rfl] at this
            exact this
          rw [add_spot hs, add_spot rfl] at c0 c1 c2 c3
          exact ⟨⟨z0, z1, z2, z3⟩, fun _ => ⟨⟨w0, w1, w2, w3⟩, hs, hb, c0, c1, c2, c3⟩⟩
      · exact ⟨⟨0, 0, 0, 0⟩, fun h => absurd h hil⟩
    obtain ⟨f, hf⟩ := Classical.axiomOfChoice hx
    refine ⟨some a, len, cap, (List.range len).map f, hcs, by simp, hl, hm, ?_, ?_⟩
    · intro x hx
      obtain ⟨i, hi, rfl⟩ := List.mem_map.1 hx
      exact (hf i (List.mem_range.1 hi)).1
    · intro i x hx
      have hil : i < len := by have := (List.getElem?_eq_some_iff.1 hx).1; simpa using this
      simp [hil] at hx
      subst hx
      obtain ⟨_, hs, hb, c0, c1, c2, c3⟩ := hf i hil
      refine ⟨a.block, a.off, ?_, hb, c0, c1, c2, c3⟩
      obtain ⟨b, off, s⟩ := a
      simp at hs
      rw [hs]

end Go.Proofs.Ytmobhphjpkpidaa.At
