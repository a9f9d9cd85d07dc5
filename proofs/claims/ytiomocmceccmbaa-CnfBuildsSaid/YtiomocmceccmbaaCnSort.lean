/- The shelf's SortFunc at literals, and what it leaves. -/
import Derived.Test.YtiomocmceccmbaaCnRow
import Derived.Shelf.SlSortCmp.NoneTotal
namespace Go.Proofs.Ytiomocmceccmbaa.Cn
open Go.RowKit
open Go.Sort (SWO Holds putRow grow PermIn SortedIn)

theorem ltOf_cfL (x y : L64) : ltOf cfL x y = true ↔ Lt x.val y.val := cfL_lt x y
theorem ltOf_cfL' (x y : L64) : ltOf cfL x y = false ↔ ¬ Lt x.val y.val := by
  rw [← ltOf_cfL]; cases ltOf cfL x y <;> simp

theorem swoL : SWO (ltOf cfL) where
  irrefl x := by rw [ltOf_cfL']; exact Lt.irrefl _
  trans x y z h1 h2 := by rw [ltOf_cfL] at *; exact h1.trans h2
  ntrans x y z h1 h2 := by
    rw [ltOf_cfL'] at *
    intro h3
    rcases Lt.total x.val y.val with e | e | e
    · rw [e] at h3; exact h2 h3
    · exact h1 e
    · exact h2 (e.trans h3)

theorem lift_lits : ∀ {zs : List Int}, (∀ x ∈ zs, IsLit x ∧ -9223372036854775808 ≤ x ∧ x ≤ 9223372036854775807) → ∃ d : List L64, d.map Subtype.val = zs
  | [], _ => ⟨[], rfl⟩
  | x :: r, h => by
    obtain ⟨d, hd⟩ := lift_lits (zs := r) fun y hy => h y (by simp [hy])
    have hx := h x (by simp)
    exact ⟨⟨x, hx.1, by have := hx.1.2; omega, hx.2.2⟩ :: d, by simp [hd]⟩

theorem sortWorld_touch (w : World) (blk off n : Nat) (d : Array L64) (os : Array Obj) : Touch w (sortWorld encL w blk off n d os) (fun i => i = blk) := by
  refine ⟨rfl, rfl, rfl, by simp [sortWorld, Go.Sort.ahead], fun i hi hne => ?_⟩
  unfold sortWorld
  rw [Go.Sort.heap_grow_old _ _ (by simpa [Go.Sort.ahead] using hi)]
  have : i ≠ blk := hne
  simp [putRow, Go.Sort.mapBlock, Array.getElem?_modify, Go.Sort.ahead, Ne.symm this]

theorem sort_row (w : World) (blk off cap : Nat) (zs : List Int) (hb : blk < w.heap.size) (hsz : zs.length < 4611686018427387904) (hl : ∀ x ∈ zs, IsLit x ∧ -9223372036854775808 ≤ x ∧ x ≤ 9223372036854775807)
    (hc : ∀ j, j < zs.length → w.cell? ⟨blk, off + j, none⟩ = some (.int .i64 (nthI zs j)) ∧ w.frozen? ⟨blk, off + j, none⟩ = false) :
    Calls Try.prog 30 #[.slice (some ⟨blk, off, none⟩) zs.length cap, .func (.func 31) #[] #[]] w fun e w' =>
      e = .returned (.tuple #[]) ∧ ∃ s : List Int, s.length = zs.length ∧ (∀ x, x ∈ s ↔ x ∈ zs) ∧ (s.Pairwise fun a b => a = b ∨ Lt a b) ∧
        (∀ j, j < s.length → w'.cell? ⟨blk, off + j, none⟩ = some (.int .i64 (nthI s j)) ∧ w'.frozen? ⟨blk, off + j, none⟩ = false) ∧ Touch w w' (fun i => i = blk) := by
  obtain ⟨d, rfl⟩ := lift_lits hl
  have hH : Holds encL w blk off d.toArray := fun j hj => by
    simp at hj
    obtain ⟨h1, h2⟩ := hc j (by simpa using hj)
    refine ⟨?_, h2⟩
    rw [h1]
    unfold encL nthI
    simp [List.getD_eq_getElem?_getD, hj]
  have hcmp : CmpLays1 Try.prog 31 #[] encL cfL blk off d.toArray.size w := fun m os dk _ x y => form1_any x y _
  have hsort := Try.slices_SortFunc encL (fun _ => rfl) cfL swoL 31 #[] blk off cap d.toArray w (enters_of Try.func31 (by kernel_rfl) rfl) hcmp hH hb (by simpa using hsz)
  rw [show d.toArray.size = (d.map Subtype.val).length by simp] at hsort
  refine hsort.mono fun e w' ⟨he, d', n, os, hp, hs, hw⟩ => ⟨he, d'.toList.map Subtype.val, ?_⟩
  rw [List.length_map] at hp hs
  have hsize : d'.size = d.length := by simpa using hp.1
  have hperm : d'.toList.Perm d := by
    have := hp.2.2
    rw [← hsize, Array.extract_size] at this
    simpa [hsize] using this
  have hH' : Holds encL (putRow encL (Go.Sort.ahead w n) blk off d') blk off d' := Go.Sort.holds_putRow encL (Go.Sort.ahead w n) blk off d.toArray d' hH (by simpa using hsize)
  have hH2 := Go.Sort.holds_grow encL (putRow encL (Go.Sort.ahead w n) blk off d') os blk off d' (by simpa [Go.Sort.ahead] using hb) hH'
  refine ⟨by simp [hsize], fun x => ?_, ?_, fun j hj => ?_, by rw [hw]; exact sortWorld_touch w blk off n d' os⟩
  · exact (hperm.map Subtype.val).mem_iff
  · rw [pairwise_nthI]
    intro i j hij hj
    simp at hj
    have h := hs i j (by omega) hij (by omega)
    rw [ltOf_cfL'] at h
    have e1 : ∀ i, i < d'.size → nthI (d'.toList.map Subtype.val) i = (d'[i]!).val := fun i hi => by unfold nthI; simp [List.getD_eq_getElem?_getD, hi]
    rw [e1 i (by omega), e1 j hj]
    rcases Lt.total (d'[i]!).val (d'[j]!).val with e | e | e
    · exact .inl e
    · exact .inr e
    · exact absurd e h
  · simp at hj
    rw [hw]
    obtain ⟨h1, h2⟩ := hH2 j hj
    refine ⟨?_, h2⟩
    unfold sortWorld
    rw [h1]
    unfold encL nthI
    simp [List.getD_eq_getElem?_getD, hj]

end Go.Proofs.Ytiomocmceccmbaa.Cn
