/- The sorted keys of a set of numbers of the call's own. -/
import Derived.Test.YtggejmojbebhfaaNdTail
import Derived.Test.YtggejmojbebhfaaKeys
namespace Go.Proofs.Ytggejmojbebhfaa.Rc
open Go.RowKit Go.Maps Go.Sort Go.Shelf

theorem sorts_in (m : Nat) : AnyZI.SortsIn Try.prog Try.sorted56_ren Fence.wide m :=
  ⟨fun blk off cap ss W hH hblk hsz => callsIn_wide.2 (AnyM.slices_Sort_int Try.sort84 blk off cap ss W hH hblk hsz),
   fun p cap W => callsIn_wide.2 (AnyM.slices_Sort_int_none Try.sort84 p cap W)⟩
theorem keys_is (mb : Option Nat) (W : World) :
    Calls Try.prog 57 #[.map mb] W fun e w' => e = .returned (.func (.func 85) #[] #[.pointer (some ⟨W.heap.size, 0, none⟩)]) ∧ w' = W.alloc (.cells #[.map mb] 87) :=
  callsIn_wide.1 (AnyZI.keys_in Try.keys57 Fence.wide 5 trivial rfl mb W)
theorem sorted_keys (w : World) (b : Nat) (l : List Int) (h : SetI w b l) (hl : l.length ≤ 100000) :
    Calls Try.prog 56 #[.func (.func 85) #[] #[.pointer (some ⟨w.heap.size, 0, none⟩)]] (w.alloc (.cells #[.map (some b)] 87)) fun e w' =>
      ∃ A n c, e = .returned (.slice A n c) ∧ OwnI w' w.heap.size (.slice A n c) (l.mergeSort leI) ∧ Below w.heap.size w w' := by
  obtain ⟨D0, hown, hC⟩ := h
  have hperm : l.Perm (intKeys D0) := hC.perm hown (int_keyed Try.underlying3) Try.underlying3 (fun _ => rfl)
  have hbl := hown.lt
  have hsz : Maps.size D0 ≤ 100000 := Nat.le_trans hown.size_le hl
  have hseq : SeqGives Fence.wide 2 Try.prog 85 #[.pointer (some ⟨w.heap.size, 0, none⟩)] encZ (fun ss => ss.Perm (intKeys D0)) (Maps.size D0) (w.alloc (.cells #[.map (some b)] 87)) :=
    AnyZI.keys_gives (ρ := Try.keys57_ren) { Try.keys57 with } Fence.wide _ trivial rfl (by omega) w.heap.size b l.length D0 _ (by simp) (by simp) (by
      obtain ⟨es, clock, hb, Ft, hs, hD⟩ := hown
      exact ⟨es, clock, (Below.heap_alloc _ _ b hbl).trans hb, Ft, hs, hD⟩)
  have cS := AnyZI.sorted_in Try.sorted56 Fence.wide 5 trivial trivial trivial trivial rfl (by omega) (sorts_in _) (enters_of Try.func84 (by kernel_rfl) rfl) 85 #[.pointer (some ⟨w.heap.size, 0, none⟩)] trivial (enters_of Try.func85 (by kernel_rfl) rfl) _ _
    (by unfold maxLen; omega) (by omega) _ hseq
  refine (callsIn_wide.1 cS).mono ?_
  rintro e w' ⟨v, ss, rfl, hS, hrow, hnil, hb⟩
  have hrow' : OwnI w' w.heap.size v (l.mergeSort leI) := by
    have e1 : ss.mergeSort (fun x y => decide (x ≤ y)) = l.mergeSort leI := mergeSort_of_perm_i (hS.trans hperm.symm)
    refine ownsRow_cast (ownsRow_base hrow (by simp)) ?_ (by rw [e1])
    rw [List.length_mergeSort]
    exact (hS.trans hperm.symm).length_eq
  obtain ⟨A, n, c, rfl⟩ := hrow'.sl
  exact ⟨A, n, c, rfl, hrow', ((Below.refl _ w).alloc (Nat.le_refl _) _).trans (hb.mono (by simp))⟩
end Go.Proofs.Ytggejmojbebhfaa.Rc
