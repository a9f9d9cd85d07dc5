/- Arguments that are settings, or variants, opened. -/
import Derived.Test.YtbdceeecngibmaaVaMem
import Derived.Deep.Slices
import Derived.ChangeSame
import Derived.SliceStrings
import Derived.Lib.SmallJoins
namespace Go.Proofs.Ytbdceeecngibmaa.Va
open Go.RowKit Go.ChangeShapes Go.WideShapes Go.Deep Go.Joins

theorem add_spot {a : Addr} (h : a.spot = none) (j : Nat) : a.add j = ⟨a.block, a.off + j, none⟩ := by
  obtain ⟨b, off, s⟩ := a
  simp at h; subst h
  unfold Addr.add; split <;> simp_all

section
variable {H : Type} {enc : TypeId × Value → H} {W : World} {base : Nat} {spare : Nat → Bool} {held : Bool}

theorem open_strs {fuel : Nat} {cs : List Value} {x : DataW H × List MemPlace} (h : DataW.trod enc Try.prog W base spare held fuel 33 cs = some x) :
    ∃ v l, cs = [v] ∧ Strs W v l := by
  rcases open_strings Try.underlying33 Try.underlying9 (by kernel_rfl) h with ⟨h0, _⟩ | ⟨a, len, cap, ss, hcs, _, hl, hm, hlen, _, hc, hsz⟩
  · exact ⟨_, [], h0, none, 0, rfl, by simp, by simp [maxLen], fun hp => by simp at hp⟩
  · have hls : len ≤ ss.length := by rw [hlen]; split <;> omega
    have hll : (ss.take len).length = len := by rw [List.length_take]; omega
    refine ⟨_, ss.take len, hcs, some a, cap, by rw [hll], by omega, hm, fun hp => ?_⟩
    rw [hll] at hp
    have hs0 : a.spot = none := by
      have := World.cell?_spot (hc 0 (by omega))
      simpa [Addr.add] using this
    have hat : ∀ j, j < len → W.cell? ⟨a.block, a.off + j, none⟩ = some (.string (nthS (ss.take len) j)) ∧ (nthS (ss.take len) j).size ≤ maxLen := by
      intro j hj
      have e : nthS (ss.take len) j = ss.getD j ByteArray.empty := by
        unfold nthS
        rw [List.getElem?_take, if_pos hj, List.getD_eq_getElem?_getD]; rfl
      have hc' := hc j (by omega)
      rw [add_spot hs0] at hc'
      rw [e]
      refine ⟨hc', ?_⟩
      rw [List.getD_eq_getElem?_getD, List.getElem?_eq_getElem (by omega)]
      exact hsz _ (List.getElem_mem _)
    refine ⟨a.block, a.off, ?_, by have := World.block_lt_of_cell? W _ (hat 0 hp).1; simpa using this, fun j hj => hat j (by omega)⟩
    obtain ⟨b, off, s⟩ := a
    simp at hs0; rw [hs0]

theorem open_sets {fuel : Nat} {cs : List Value} {x : DataW H × List MemPlace} (h : DataW.trod enc Try.prog W base spare held fuel 25 cs = some x) :
    ∃ A len cap l, cs = [.slice A len cap] ∧ Sets W (.slice A len cap) l := by
  rcases open_slice Try.underlying25 h with ⟨h0, _⟩ | ⟨a, len, cap, m, n, D, Pl, hcs, _, hl, hm, hmm, _, hi⟩
  · exact ⟨none, 0, 0, [], h0, none, 0, rfl, by simp, by simp [maxLen], fun hp => by simp at hp⟩
  · have hlm : len ≤ m := by rw [hmm]; split <;> omega
    have e2 : Try.prog.cellsOf 37 = 2 := by kernel_rfl
    have e3 : Try.prog.cellsOf 9 = 1 := by kernel_rfl
    have hs0 : 0 < len → a.spot = none := fun h0 => by
      obtain ⟨cs', hc, ht⟩ := hi 0 (by omega)
      rw [e2] at hc
      obtain ⟨_, hcl, hat⟩ := World.cells?_some hc
      have c0 := hat 0 (by omega)
      rw [List.getElem?_eq_getElem (by omega)] at c0
      simpa [Addr.add] using World.cell?_spot c0
    have hx : ∀ i, ∃ x : Set1, i < len → a.spot = none ∧ a.block < W.heap.size ∧ W.cell? ⟨a.block, a.off + i * 2, none⟩ = some (.string x.1) ∧ W.cell? ⟨a.block, a.off + i * 2 + 1, none⟩ = some (.string x.2) ∧ x.1.size ≤ maxLen ∧ x.2.size ≤ maxLen := by
      intro i
      by_cases hil : i < len
      · obtain ⟨cs', hc, ht⟩ := hi i (by omega)
        rw [e2] at hc
        obtain ⟨_, hcl, hat⟩ := World.cells?_some hc
        obtain ⟨y0, y1, n', _, hlen, h0, h1⟩ := trod_struct2 Try.underlying37 ht
        rw [e2] at hlen
        match cs', hlen with
        | [v0, v1], _ =>
          simp only [e3, List.drop_zero, List.drop_succ_cons, List.take_succ_cons, List.take_zero] at h0 h1
          obtain ⟨z0, q0, _, w0⟩ := DataW.trod_string Try.underlying9 h0
          obtain ⟨z1, q1, _, w1⟩ := DataW.trod_string Try.underlying9 h1
          simp at q0 q1
          subst q0; subst q1
          have c0 := hat 0 (by omega)
          have c1 := hat 1 (by omega)
          simp at c0 c1
          have hs : a.spot = none := hs0 (by omega)
          rw [add_spot hs, add_spot rfl] at c0 c1
          have hb : a.block < W.heap.size := by have := World.block_lt_of_cell? W _ c0; simpa using this
          exact ⟨⟨z0, z1⟩, fun _ => ⟨hs, hb, c0, c1, w0, w1⟩⟩
      · exact ⟨(⟨#[]⟩, ⟨#[]⟩), fun h => absurd h hil⟩
    obtain ⟨f, hf⟩ := Classical.axiomOfChoice hx
    have hll : ((List.range len).map f).length = len := by simp
    refine ⟨some a, len, cap, (List.range len).map f, hcs, some a, cap, by rw [hll], by rw [hll]; exact hl, hm, fun hp => ?_⟩
    rw [hll] at hp
    have hs := (hf 0 hp).1
    refine ⟨a.block, a.off, ?_, (hf 0 hp).2.1, fun j hj => ?_⟩
    · obtain ⟨b, off, s⟩ := a
      simp at hs; rw [hs]
    · rw [hll] at hj
      have e : nthT ((List.range len).map f) j = f j := by unfold nthT; simp [hj]
      rw [e]
      exact (hf j hj).2.2

theorem open_vars {fuel : Nat} {cs : List Value} {x : DataW H × List MemPlace} (h : DataW.trod enc Try.prog W base spare held fuel 24 cs = some x) :
    ∃ A len cap l, cs = [.slice A len cap] ∧ Vars W (.slice A len cap) l := by
  rcases open_slice Try.underlying24 h with ⟨h0, _⟩ | ⟨a, len, cap, m, n, D, Pl, hcs, _, hl, hm, hmm, _, hi⟩
  · exact ⟨none, 0, 0, [], h0, none, 0, rfl, by simp, by simp [maxLen], fun hp => by simp at hp⟩
  · have hlm : len ≤ m := by rw [hmm]; split <;> omega
    have e2 : Try.prog.cellsOf 35 = 2 := by kernel_rfl
    have e3 : Try.prog.cellsOf 9 = 1 := by kernel_rfl
    have e4 : Try.prog.cellsOf 33 = 1 := by kernel_rfl
    have hs0 : 0 < len → a.spot = none := fun h0 => by
      obtain ⟨cs', hc, ht⟩ := hi 0 (by omega)
      rw [e2] at hc
      obtain ⟨_, hcl, hat⟩ := World.cells?_some hc
      have c0 := hat 0 (by omega)
      rw [List.getElem?_eq_getElem (by omega)] at c0
      simpa [Addr.add] using World.cell?_spot c0
    have hx : ∀ i, ∃ x : Var, i < len → a.spot = none ∧ a.block < W.heap.size ∧ W.cell? ⟨a.block, a.off + i * 2, none⟩ = some (.string x.1) ∧ (∃ u, W.cell? ⟨a.block, a.off + i * 2 + 1, none⟩ = some u ∧ Strs W u x.2) ∧ x.1.size ≤ maxLen := by
      intro i
      by_cases hil : i < len
      · obtain ⟨cs', hc, ht⟩ := hi i (by omega)
        rw [e2] at hc
        obtain ⟨_, hcl, hat⟩ := World.cells?_some hc
        obtain ⟨y0, y1, n', _, hlen, h0, h1⟩ := trod_struct2 Try.underlying35 ht
        rw [e2] at hlen
        match cs', hlen with
        | [v0, v1], _ =>
          simp only [e3, e4, List.drop_zero, List.drop_succ_cons, List.take_succ_cons, List.take_zero] at h0 h1
          obtain ⟨z0, q0, _, w0⟩ := DataW.trod_string Try.underlying9 h0
          obtain ⟨v, l, q1, w1⟩ := open_strs h1
          simp at q0 q1
          subst q0; subst q1
          have c0 := hat 0 (by omega)
          have c1 := hat 1 (by omega)
          simp at c0 c1
          have hs : a.spot = none := hs0 (by omega)
          rw [add_spot hs, add_spot rfl] at c0 c1
          have hb : a.block < W.heap.size := by have := World.block_lt_of_cell? W _ c0; simpa using this
          exact ⟨⟨z0, l⟩, fun _ => ⟨hs, hb, c0, ⟨_, c1, w1⟩, w0⟩⟩
      · exact ⟨(⟨#[]⟩, []), fun h => absurd h hil⟩
    obtain ⟨f, hf⟩ := Classical.axiomOfChoice hx
    have hll : ((List.range len).map f).length = len := by simp
    refine ⟨some a, len, cap, (List.range len).map f, hcs, some a, cap, by rw [hll], by rw [hll]; exact hl, hm, fun hp => ?_⟩
    rw [hll] at hp
    have hs := (hf 0 hp).1
    refine ⟨a.block, a.off, ?_, (hf 0 hp).2.1, fun j hj => ?_⟩
    · obtain ⟨b, off, s⟩ := a
      simp at hs; rw [hs]
    · rw [hll] at hj
      have e : nthV ((List.range len).map f) j = f j := by unfold nthV; simp [hj]
      rw [e]
      exact (hf j hj).2.2
end

def VarsP (W : World) (A : Option Addr) (len cap : Nat) (l : List Var) : Prop := Vars W (.slice A len cap) l
def SetsP (W : World) (A : Option Addr) (len cap : Nat) (l : List Set1) : Prop := Sets W (.slice A len cap) l

end Go.Proofs.Ytbdceeecngibmaa.Va
