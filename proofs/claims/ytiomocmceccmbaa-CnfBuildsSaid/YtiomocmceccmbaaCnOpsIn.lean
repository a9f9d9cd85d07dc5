/- A row of operations that comes in. -/
import Derived.Test.YtiomocmceccmbaaCnSaid3
import Derived.Test.YtiomocmceccmbaaCnOpen
import Derived.Deep.Slices
namespace Go.Proofs.Ytiomocmceccmbaa.Cn
open Go.RowKit Go.ChangeShapes Go.WideShapes Go.Deep Go.Joins

structure Opn where
  kd : Int
  x : Int
  A : Option Addr
  L : Nat
  c : Nat
  zs : List Int

/-- The operation at a place of a row. -/
structure OpAt (w : World) (A : Option Addr) (i : Nat) (o : Opn) : Prop where
  at' : ∃ b off, A = some ⟨b, off, none⟩ ∧ b < w.heap.size ∧ w.cell? ⟨b, off + i * 3, none⟩ = some (.int .i64 o.kd) ∧ w.cell? ⟨b, off + i * 3 + 1, none⟩ = some (.int .i64 o.x) ∧ w.cell? ⟨b, off + i * 3 + 2, none⟩ = some (.slice o.A o.L o.c)
  row : Row w 0 (.slice o.A o.L o.c) o.zs
  kin : -9223372036854775808 ≤ o.kd ∧ o.kd ≤ 9223372036854775807
  xin : -9223372036854775808 ≤ o.x ∧ o.x ≤ 9223372036854775807

def IsOps (w : World) (A : Option Addr) (len cap : Nat) (os : List Opn) : Prop := os.length = len ∧ len ≤ cap ∧ cap ≤ maxLen ∧ ∀ i o, os[i]? = some o → OpAt w A i o

theorem OpAt.below {w w' : World} {A : Option Addr} {i : Nat} {o : Opn} (h : OpAt w A i o) (hb : Below w.heap.size w w') : OpAt w' A i o := by
  obtain ⟨⟨b, off, ha, hlt, h1, h2, h3⟩, hr, hk, hx⟩ := h
  exact ⟨⟨b, off, ha, Nat.lt_of_lt_of_le hlt hb.size, (hb.cell (p := ⟨b, _, none⟩) hlt).trans h1, (hb.cell (p := ⟨b, _, none⟩) hlt).trans h2, (hb.cell (p := ⟨b, _, none⟩) hlt).trans h3⟩, hr.below hb, hk, hx⟩

theorem open_row {H : Type} {enc : TypeId × Value → H} {W : World} {base : Nat} {held : Bool} {fuel : Nat} {cs : List Value} {x : DataW H × List MemPlace}
    (h : DataW.trod enc Try.prog W base (fun _ => true) held fuel 22 cs = some x) : ∃ A L c zs, cs = [.slice A L c] ∧ Row W 0 (.slice A L c) zs := by
  rcases open_ints Try.underlying22 Try.underlying3 (by kernel_rfl) h with ⟨hcs, _⟩ | ⟨a, l, c, zs, hcs, _, hl, hm, hz, _, hcell, hwz⟩
  · exact ⟨none, 0, 0, [], hcs, row_nil W⟩
  · exact ⟨some a, l, c, _, hcs, isRow_row (.inr ⟨_, rfl, hl, hm, by simpa using hz, hcell, hwz⟩)⟩

theorem open_ops {H : Type} {enc : TypeId × Value → H} {W : World} {base : Nat} {held : Bool} {fuel : Nat} {cs : List Value} {x : DataW H × List MemPlace}
    (h : DataW.trod enc Try.prog W base (fun _ => true) held fuel 31 cs = some x) : ∃ A len cap l, cs = [.slice A len cap] ∧ IsOps W A len cap l := by
  rcases open_slice Try.underlying31 h with ⟨h0, _⟩ | ⟨a, len, cap, m, n, D, Pl, hcs, _, hl, hm, hmm, _, hi⟩
  · exact ⟨none, 0, 0, [], h0, rfl, Nat.le_refl _, Nat.zero_le _, fun i x hx => by simp at hx⟩
  · have hlm : len ≤ m := by rw [hmm]; split <;> omega
    have e2 : Try.prog.cellsOf 35 = 3 := by kernel_rfl
    have e3 : Try.prog.cellsOf 22 = 1 := by kernel_rfl
    have e4 : Try.prog.cellsOf 3 = 1 := by kernel_rfl
    have hs0 : 0 < len → a.spot = none := fun h0 => by
      obtain ⟨cs', hc, ht⟩ := hi 0 (by omega)
      rw [e2] at hc
      obtain ⟨_, hcl, hat⟩ := World.cells?_some hc
      have c0 := hat 0 (by omega)
      rw [List.getElem?_eq_getElem (by omega)] at c0
      simpa [Addr.add] using World.cell?_spot c0
    have hx : ∀ i, ∃ o : Opn, i < len → OpAt W (some a) i o := by
      intro i
      by_cases hil : i < len
      · obtain ⟨cs', hc, ht⟩ := hi i (by omega)
        rw [e2] at hc
        obtain ⟨_, hcl, hat⟩ := World.cells?_some hc
        obtain ⟨y0, y1, y2, n', _, hlen, h0, h1, h2⟩ := trod_struct3 Try.underlying35 ht
        rw [e2] at hlen
        match cs', hlen with
        | [v0, v1, v2], _ =>
          simp only [e3, e4, List.drop_zero, List.drop_succ_cons, List.take_succ_cons, List.take_zero] at h0 h1 h2
          obtain ⟨z0, q0, _, w0⟩ := DataW.trod_int Try.underlying3 h0
          obtain ⟨z1, q1, _, w1⟩ := DataW.trod_int Try.underlying3 h1
          obtain ⟨A2, L2, c2, zs2, q2, r2⟩ := open_row h2
          simp at q0 q1 q2
          subst q0; subst q1; subst q2
          have c0 := hat 0 (by omega)
          have c1 := hat 1 (by omega)
          have c2' := hat 2 (by omega)
          simp at c0 c1 c2'
          have hsp := hs0 (by omega)
          obtain ⟨b, off, sp⟩ := a
          simp at hsp
          subst hsp
          rw [Addr.add_mid, Addr.add_mid] at c0 c1 c2'
          have hb := World.block_lt_of_cell? W _ c0
          exact ⟨⟨z0, z1, A2, L2, c2, zs2⟩, fun _ => ⟨⟨b, off, rfl, hb, c0, c1, c2'⟩, r2, bounds_i64' w0, bounds_i64' w1⟩⟩
      · exact ⟨⟨0, 0, none, 0, 0, []⟩, fun h => absurd h hil⟩
    obtain ⟨f, hf⟩ := Classical.axiomOfChoice hx
    refine ⟨some a, len, cap, (List.range len).map f, hcs, by simp, hl, hm, fun i o ho => ?_⟩
    have hil : i < len := by have := (List.getElem?_eq_some_iff.1 ho).1; simpa using this
    simp [hil] at ho
    subst ho
    exact hf i hil

end Go.Proofs.Ytiomocmceccmbaa.Cn
