/- The settings sorted by their names. -/
import Derived.Test.YtbdceeecngibmaaVaBothMath
import Derived.Test.YtbdceeecngibmaaSort
namespace Go.Proofs.Ytbdceeecngibmaa.Va
open Go.RowKit
open Go.Sort (SWO Holds putRow grow PermIn SortedIn flatK get_flatK size_flatK HoldsK putRowK)

theorem less_cb : ∀ a b : List UInt8, Op.bytesLess a b = decide (Lib.compareBytes a b < 0)
  | [], [] => rfl
  | [], _ :: _ => rfl
  | _ :: _, [] => rfl
  | a :: xs, b :: ys => by
    have ih := less_cb xs ys
    simp only [Op.bytesLess, Lib.compareBytes]
    by_cases h : a < b
    · simp [h]
    · by_cases h2 : b < a
      · have : ¬ a = b := by rintro rfl; exact h h2
        simp [h, h2, this]
      · have : a = b := by
          apply UInt8.toNat_inj.1
          rw [UInt8.lt_iff_toNat_lt] at h h2; omega
        subst this
        simp [h, ih]
def cfT (x y : Set1) : Int := Lib.compareBytes x.1.data.toList y.1.data.toList
def encT (x : Set1) : List Value := [.string x.1, .string x.2]
theorem ltOf_cfT (x y : Set1) : ltOf cfT x y = ltS x.1 y.1 := by
  unfold ltOf cfT ltS
  rw [less_cb]
  simp [Lib.toList_data]
theorem swoT : SWO (ltOf cfT) where
  irrefl x := by rw [ltOf_cfT]; exact ltS_irrefl _
  trans x y z h1 h2 := by rw [ltOf_cfT] at *; exact ltS_trans h1 h2
  ntrans x y z h1 h2 := by
    rw [ltOf_cfT] at *
    cases h : ltS x.1 z.1 with
    | false => rfl
    | true =>
      exfalso
      cases h3 : ltS y.1 x.1 with
      | true =>
        rw [ltS_trans h3 h] at h2; cases h2
      | false =>
        have e := ltS_tri h1 h3
        rw [← e, h] at h2; cases h2

set_option maxRecDepth 100000 in
set_option maxHeartbeats 1000000 in
theorem both1_any (x y : Set1) (w : World) : Calls Try.prog 44 #[.agg (encT x).toArray, .agg (encT y).toArray] w fun e w' => e = .returned (.int .i64 (cfT x y)) ∧ ∃ q os', w' = Go.Sort.grow (w.drewN q) os' := by
  obtain ⟨x1, x2⟩ := x
  obtain ⟨y1, y2⟩ := y
  obtain ⟨r, hr⟩ : ∃ r, cfT (x1, x2) (y1, y2) = r := ⟨_, rfl⟩
  have HR := Lib.hid hr
  rw [hr]
  clear hr
  show Calls Try.prog 44 #[.agg #[.string x1, .string x2], .agg #[.string y1, .string y2]] w _
  go_enter Try.func44, Try.ntmps44
  go_wp2_with fail
  refine (Any.strings_Compare Try.lays106 x1 y1 _).mono ?_
  rintro e w' ⟨rfl, rfl⟩
  rw [show Lib.compareBytes x1.data.toList y1.data.toList = r from HR.out]
  go_wp2
  go_ret
  refine ⟨rfl, 0, #[.cells #[.string x1, .string x2] 37 (0, 0), .cells #[.string y1, .string y2] 37 (0, 0)], ?_⟩
  rw [Go.Sort.alloc_eq_grow, Go.Sort.alloc_eq_grow, Go.Sort.grow_grow]
  rfl

theorem flat_at (d : List Set1) (j : Nat) (hj : j < d.length) : (flatK encT 2 d.toArray)[j * 2]! = .string (nthT d j).1 ∧ (flatK encT 2 d.toArray)[j * 2 + 1]! = .string (nthT d j).2 := by
  rw [get_flatK _ _ _ _ (by simp; omega), get_flatK _ _ _ _ (by simp; omega), Nat.mul_div_cancel _ (by decide), Nat.mul_mod_left, show (j * 2 + 1) / 2 = j by omega, show (j * 2 + 1) % 2 = 1 by omega]
  have e : d.toArray[j]! = nthT d j := by rw [nthT_lt hj]; simp [hj]
  rw [e]
  exact ⟨rfl, rfl⟩
theorem flat_all (d : List Set1) (w : World) (blk off : Nat) (h : ∀ j, j < d.length → (w.cell? ⟨blk, off + j * 2, none⟩ = some (.string (nthT d j).1) ∧ w.frozen? ⟨blk, off + j * 2, none⟩ = false) ∧ w.cell? ⟨blk, off + j * 2 + 1, none⟩ = some (.string (nthT d j).2) ∧ w.frozen? ⟨blk, off + j * 2 + 1, none⟩ = false) :
    HoldsK encT 2 w blk off d.toArray := by
  intro t ht
  rw [size_flatK] at ht
  simp at ht
  obtain ⟨j, hj⟩ : ∃ j, j = t / 2 := ⟨_, rfl⟩
  have hjl : j < d.length := by omega
  obtain ⟨⟨a1, a2⟩, a3, a4⟩ := h j hjl
  obtain ⟨f1, f2⟩ := flat_at d j hjl
  rcases Nat.mod_two_eq_zero_or_one t with e | e
  · have et : t = j * 2 := by omega
    subst et
    exact ⟨by rw [a1]; show _ = some (flatK encT 2 d.toArray)[j * 2]!; rw [f1], a2⟩
  · have et : t = j * 2 + 1 := by omega
    subst et
    exact ⟨by rw [← Nat.add_assoc, a3]; show _ = some (flatK encT 2 d.toArray)[j * 2 + 1]!; rw [f2], by rw [← Nat.add_assoc]; exact a4⟩
theorem sortWorldK_touch (w : World) (blk off n : Nat) (d : Array Set1) (os : Array Obj) : Touch w (sortWorldK encT 2 w blk off n d os) (fun i => i = blk) := by
  refine ⟨rfl, rfl, rfl, by simp [sortWorldK, putRowK, Go.Sort.ahead], fun i hi hne => ?_⟩
  unfold sortWorldK putRowK
  rw [Go.Sort.heap_grow_old _ _ (by simpa [Go.Sort.ahead] using hi)]
  have : i ≠ blk := hne
  simp [putRow, Go.Sort.mapBlock, Array.getElem?_modify, Go.Sort.ahead, Ne.symm this]

theorem sortT_row (w : World) (blk off cap : Nat) (l : List Set1) (hb : blk < w.heap.size) (hsz : l.length < 4611686018427387904)
    (h : ∀ j, j < l.length → (w.cell? ⟨blk, off + j * 2, none⟩ = some (.string (nthT l j).1) ∧ w.frozen? ⟨blk, off + j * 2, none⟩ = false) ∧ w.cell? ⟨blk, off + j * 2 + 1, none⟩ = some (.string (nthT l j).2) ∧ w.frozen? ⟨blk, off + j * 2 + 1, none⟩ = false) :
    Calls Try.prog 43 #[.slice (some ⟨blk, off, none⟩) l.length cap, .func (.func 44) #[] #[]] w fun e w' =>
      e = .returned (.tuple #[]) ∧ ∃ s : List Set1, s.length = l.length ∧ (∀ x, x ∈ s ↔ x ∈ l) ∧ Rise s ∧ HoldsK encT 2 w' blk off s.toArray ∧ Touch w w' (fun i => i = blk) := by
  have hH := flat_all l w blk off h
  have hcmp : CmpLays Try.prog 44 #[] encT 2 cfT blk off l.toArray.size w := fun m os dk _ x y => both1_any x y _
  have hsort := AnyQ.slices_SortFunc Try.laysSlF6_f43 2 Try.isAgg37 Try.sizeOf37 encT (fun _ => rfl) (fun x v hv => by simp [encT] at hv; rcases hv with rfl | rfl <;> rfl) cfT swoT 44 #[] blk off cap l.toArray w (enters_of Try.func44 (by kernel_rfl) rfl) hcmp hH hb (by simpa using hsz)
  refine hsort.mono fun e w' ⟨he, d', n, os, hp, hs, hw⟩ => ⟨he, d'.toList, ?_⟩
  have hsize : d'.size = l.length := by simpa using hp.1
  have hperm : d'.toList.Perm l := by
    have := hp.2.2
    rw [show l.toArray.size = d'.size by simp [hsize], Array.extract_size] at this
    simpa [hsize] using this
  have hH' : HoldsK encT 2 (putRowK encT 2 (Go.Sort.ahead w n) blk off d') blk off d' :=
    Go.Sort.holds_putRow id (Go.Sort.ahead w n) blk off (flatK encT 2 l.toArray) (flatK encT 2 d') hH (by rw [size_flatK, size_flatK, hsize]; simp)
  have hH2 := Go.Sort.holds_grow id (putRowK encT 2 (Go.Sort.ahead w n) blk off d') os blk off (flatK encT 2 d') (by simpa [putRowK, Go.Sort.ahead] using hb) hH'
  refine ⟨by simp [hsize], fun x => hperm.mem_iff, ?_, by rw [hw]; exact hH2, by rw [hw]; exact sortWorldK_touch w blk off n d' os⟩
  intro i x y h1 h2
  obtain ⟨hi1, e1⟩ := List.getElem?_eq_some_iff.1 h1
  obtain ⟨hi2, e2⟩ := List.getElem?_eq_some_iff.1 h2
  have hs' := hs i (i + 1) (Nat.zero_le _) (Nat.lt_succ_self _) (by simp at hi2 ⊢; omega)
  rw [ltOf_cfT] at hs'
  have g1 : d'[i]! = x := by rw [← e1]; simp at hi1; simp [hi1]
  have g2 : d'[i + 1]! = y := by rw [← e2]; simp at hi2; simp [hi2]
  rw [g1, g2] at hs'
  exact hs'
end Go.Proofs.Ytbdceeecngibmaa.Va
