/- Slices of truth values, and rows of numbers, that come in. -/
import Derived.Test.YtiomocmceccmbaaCnFormLaw
import Derived.Deep.Grids
import Derived.Deep.Matrix
import Derived.ChangeSame
import Derived.Lib.SmallJoins
namespace Go.Proofs.Ytiomocmceccmbaa.Cn
open Go.RowKit Go.ChangeShapes Go.WideShapes Go.Deep Go.Joins

theorem addr_lit {w : World} {a : Addr} {v : Value} (h : w.cell? (a.add 0) = some v) : a = ⟨a.block, a.off, none⟩ ∧ a.block < w.heap.size ∧ ∀ j, a.add j = ⟨a.block, a.off + j, none⟩ := by
  obtain ⟨b, off, spot⟩ := a
  have hs : spot = none := by
    have := World.cell?_spot h
    simpa [Addr.add] using this
  subst hs
  refine ⟨rfl, ?_, fun j => Addr.add_mid _ _ _⟩
  have := World.block_lt_of_cell? w _ h
  rwa [Addr.add_mid] at this

theorem open_brow {H : Type} {enc : TypeId × Value → H} {W : World} {base : Nat} {held : Bool} {fuel : Nat} {cs : List Value} {x : DataW H × List MemPlace}
    (h : DataW.trod enc Try.prog W base (fun _ => true) held fuel 23 cs = some x) : ∃ A len cap l, cs = [.slice A len cap] ∧ BRow W A len cap l := by
  rcases open_bools Try.underlying23 Try.underlying4 (by kernel_rfl) h with ⟨h0, _⟩ | ⟨a, len, cap, B, hcs, _, hl, hm, _, hi⟩
  · exact ⟨none, 0, 0, [], h0, rfl, Nat.le_refl _, Nat.zero_le _, .inl rfl⟩
  · refine ⟨some a, len, cap, (List.range len).map B, hcs, by simp, hl, hm, ?_⟩
    by_cases h0 : len = 0
    · exact .inl h0
    · right
      obtain ⟨e1, e2, e3⟩ := addr_lit (hi 0 (by omega))
      refine ⟨a.block, a.off, by rw [← e1], e2, fun j hj => ?_⟩
      rw [← e3, hi j (by omega)]
      unfold bget
      simp [List.getD_eq_getElem?_getD, hj]

/-- Rows of numbers that came in. -/
def GridIn (w : World) (A : Option Addr) (n cap : Nat) (ls : List (List Int)) : Prop := Grid w (.slice A n cap) ls

theorem open_grid {H : Type} {enc : TypeId × Value → H} {W : World} {base : Nat} {held : Bool} {fuel : Nat} {cs : List Value} {x : DataW H × List MemPlace}
    (h : DataW.trod enc Try.prog W base (fun _ => true) held fuel 29 cs = some x) : ∃ A n cap l, cs = [.slice A n cap] ∧ GridIn W A n cap l := by
  rcases open_int_rows Try.underlying29 Try.underlying22 Try.underlying3 (by kernel_rfl) (by kernel_rfl) h with ⟨h0, _⟩ | ⟨a, len, cap, A, L, C, Zs, hcs, _, hl, hm, _, hi⟩
  · exact ⟨none, 0, 0, [], h0, none, 0, [], rfl, Nat.le_refl _, Nat.zero_le _, .inl rfl, rfl, fun j u z hu => by simp at hu⟩
  · have hll : ((List.range len).map fun r => (Zs r).take (L r)).length = len := by simp
    refine ⟨some a, len, cap, (List.range len).map fun r => (Zs r).take (L r), hcs, some a, cap, (List.range len).map fun r => .slice (A r) (L r) (C r), by rw [hll], by rw [hll]; exact hl, hm, ?_, by simp, fun j u z hu hz => ⟨?_, fun _ _ _ h => h⟩⟩
    · by_cases h0 : len = 0
      · left; rw [h0]; rfl
      · right
        obtain ⟨e1, e2, e3⟩ := addr_lit (hi 0 (by omega)).1
        refine ⟨a.block, a.off, by rw [← e1], e2, fun j u hu => ?_⟩
        have hj : j < len := by have := (List.getElem?_eq_some_iff.1 hu).1; simpa using this
        rw [← e3, (hi j (by omega)).1]
        rw [← hu]; simp [hj]
    · have hj : j < len := by have := (List.getElem?_eq_some_iff.1 hu).1; simpa using this
      obtain ⟨_, r2, r3, r4, r5, r6, r7⟩ := hi j (by omega)
      simp [hj] at hu hz
      subst hu; subst hz
      have hlt : ((Zs j).take (L j)).length = L j := by rw [List.length_take]; omega
      refine ⟨A j, C j, by rw [hlt], by rw [hlt]; exact r2, r3, ?_, fun y hy => bounds_i64' (r5 y (List.mem_of_mem_take hy))⟩
      by_cases h0 : L j = 0
      · left; rw [h0]; rfl
      · right
        cases hA : A j with
        | none => have := r6 hA; omega
        | some a' =>
          obtain ⟨f1, f2, f3⟩ := addr_lit ((r7 a' hA).2 0 (by omega))
          refine ⟨a'.block, a'.off, by rw [← f1], Nat.zero_le _, f2, fun i hi' => ?_⟩
          rw [hlt] at hi'
          rw [← f3, (r7 a' hA).2 i (by omega)]
          unfold nthI
          rw [List.getD_eq_getElem?_getD, List.getD_eq_getElem?_getD, List.getElem?_take, if_pos hi']

theorem cnfForm_row (a : Option Addr) (len cap : Nat) (zs0 : List Int) (M : Option Addr) (ml mc : Nat) (bs : List Bool) (w : World) (h : IsRow .i64 w a len cap zs0) (hm : BRow w M ml mc bs) :
    Calls Try.prog 3 #[.slice a len cap, .slice M ml mc] w fun e w' => e = .returned (.bool true) ∧ Below w.heap.size w w' := cnfForm_any a len cap zs0 M ml mc bs w h hm

end Go.Proofs.Ytiomocmceccmbaa.Cn
