/- The chapter's example. -/
import Derived.Test.YtggejmojbebhfaaNdClosure
namespace Go.Proofs.Ytggejmojbebhfaa.Rc
open Go.RowKit Go.Maps

theorem RowD.of_heap {α : Type} [Inhabited α] {K : Kd α} {w : World} {X : Nat} {cs : Array Value} {T : TypeId} {l : List α} {n : Nat} (hn : n = l.length) (h : w.heap[X]? = some (.cells cs T (0, 0))) (hl : n ≤ maxLen)
    (hk : ∀ j, j < n → ∃ ds, K.is w ds (nth l j) ∧ ∀ i, i < K.n → cs[j * K.n + i]? = ds[i]?) : RowD K w (.slice (some ⟨X, 0, none⟩) n n) l := by
  subst hn
  refine ⟨_, _, rfl, Nat.le_refl _, hl, fun _ => ⟨X, 0, rfl, lt_of_heap h, fun j hj => ?_⟩⟩
  obtain ⟨ds, h1, h2⟩ := hk j hj
  refine ⟨ds, h1, fun i hi => ?_⟩
  rw [Nat.zero_add, cell_of_row w X _ _ _ _ h]
  exact h2 i hi
def spec1 (s : ByteArray) : Spec := ⟨s, [], []⟩
def dep10 : Two := ⟨spec1 ⟨#[98]⟩, ⟨⟨#[]⟩, [], [(⟨#[120]⟩, ⟨#[111, 110]⟩)]⟩, 0⟩
def pkg1 (s : ByteArray) (ds : List Two) : Pkg := ⟨s, 0, [], [], [], ds, [], []⟩
def rec10 : Rec := ⟨[pkg1 ⟨#[99]⟩ [], pkg1 ⟨#[98]⟩ [], pkg1 ⟨#[97]⟩ [dep10]], []⟩
def req10 : List Root := [⟨spec1 ⟨#[97]⟩, 0⟩]
theorem targs_a : targs rec10 ⟨#[97]⟩ = [2] := by decide +kernel
theorem targs_b : targs rec10 ⟨#[98]⟩ = [1] := by decide +kernel
theorem reach10 (t : Int) : Reach rec10 req10 t ↔ t ∈ [(1 : Int), 2] := by
  constructor
  · intro h
    induction h with
    | root h ht =>
      simp [req10] at h
      subst h
      rw [show (spec1 ⟨#[97]⟩).name = ⟨#[97]⟩ from rfl, targs_a] at ht
      simp at ht ⊢
      exact .inr ht
    | dep _ hd ht ih =>
      simp at ih
      rcases ih with rfl | rfl
      · exact absurd hd (by intro h; cases h)
      · rw [show (pk rec10 2).deps = [dep10] from rfl] at hd
        simp at hd
        subst hd
        rw [show dep10.a.name = ⟨#[98]⟩ from rfl, targs_b] at ht
        simp at ht ⊢
        exact .inl ht
  · intro h
    have h2 : Reach rec10 req10 2 := .root (r := ⟨spec1 ⟨#[97]⟩, 0⟩) (by simp [req10]) (by rw [show (spec1 ⟨#[97]⟩).name = ⟨#[97]⟩ from rfl, targs_a]; simp)
    simp at h
    rcases h with rfl | rfl
    · exact .dep h2 (d := dep10) (by rw [show (pk rec10 2).deps = [dep10] from rfl]; simp) (by rw [show dep10.a.name = ⟨#[98]⟩ from rfl, targs_b]; simp)
    · exact h2
theorem close_is {x : Rec} {q : List Root} {l : List Int} (hl : l.Pairwise (· < ·)) (h : ∀ t, Reach x q t ↔ t ∈ l) : closeL x q = l := by
  have hn : (closeL x q).Nodup := (closeL_sorted x q).imp fun {a b} h => by omega
  rw [← sorted_is hn (closeL_sorted x q) (fun _ => Iff.rfl)]
  exact sorted_is hn hl fun t => by rw [closeL_mem]; exact h t
theorem close10 : closeL rec10 req10 = [1, 2] := close_is (by simp) reach10

/-- The example in memory. -/
theorem rec10_is {w : World} {X Y Z : Nat} (hX : w.heap[X]? = some (.cells #[.string ⟨#[120]⟩, .string ⟨#[111, 110]⟩] 78 (0, 0)))
    (hY : w.heap[Y]? = some (.cells #[.string ⟨#[98]⟩, .slice none 0 0, .slice none 0 0, .string ⟨#[]⟩, .slice none 0 0, .slice (some ⟨X, 0, none⟩) 1 1, .int .i64 0] 80 (0, 0)))
    (hZ : w.heap[Z]? = some (.cells #[.string ⟨#[99]⟩, .int .i64 0, .slice none 0 0, .slice none 0 0, .slice none 0 0, .slice none 0 0, .slice none 0 0, .slice none 0 0,
      .string ⟨#[98]⟩, .int .i64 0, .slice none 0 0, .slice none 0 0, .slice none 0 0, .slice none 0 0, .slice none 0 0, .slice none 0 0,
      .string ⟨#[97]⟩, .int .i64 0, .slice none 0 0, .slice none 0 0, .slice none 0 0, .slice (some ⟨Y, 0, none⟩) 1 1, .slice none 0 0, .slice none 0 0] 45 (0, 0))) :
    IsRec w (.slice (some ⟨Z, 0, none⟩) 3 3) (.slice none 0 0) rec10 := by
  have small : ∀ s : ByteArray, s.size ≤ 10 → s.size ≤ maxLen := fun s h => by unfold maxLen; omega
  have hset : RowD setK w (.slice (some ⟨X, 0, none⟩) 1 1) [((⟨#[120]⟩ : ByteArray), (⟨#[111, 110]⟩ : ByteArray))] := RowD.of_heap rfl hX (by simp [maxLen]) fun j hj => by
    obtain rfl : j = 0 := by omega
    exact ⟨_, ⟨rfl, small _ (by decide), small _ (by decide)⟩, fun i hi => by rw [Nat.zero_mul, Nat.zero_add]; exact List.getElem?_toArray⟩
  have hdep : RowD twoK w (.slice (some ⟨Y, 0, none⟩) 1 1) [dep10] := RowD.of_heap rfl hY (by simp [maxLen]) fun j hj => by
    obtain rfl : j = 0 := by omega
    exact ⟨_, ⟨_, _, _, _, rfl, ⟨small _ (by decide), RowD.nil w, RowD.nil w⟩, ⟨small _ (by decide), RowD.nil w, hset⟩, (show (Lit.int .i64 0).wf = true by decide)⟩, fun i hi => by rw [Nat.zero_mul, Nat.zero_add]; exact List.getElem?_toArray⟩
  have hp : ∀ (s : ByteArray) (v : Value) (ds : List Two), s.size ≤ 10 → RowD twoK w v ds → pkgK.is w [.string s, .int .i64 0, .slice none 0 0, .slice none 0 0, .slice none 0 0, v, .slice none 0 0, .slice none 0 0] (pkg1 s ds) :=
    fun s v ds hs h => ⟨_, _, _, _, _, _, rfl, ⟨small _ hs, (show (Lit.int .i64 0).wf = true by decide), RowD.nil w, RowD.nil w, RowD.nil w, h, RowD.nil w, RowD.nil w⟩⟩
  refine ⟨RowD.of_heap rfl hZ (by simp [maxLen]) fun j hj => ?_, RowD.nil w⟩
  match j, hj with
  | 0, _ => exact ⟨_, hp ⟨#[99]⟩ (.slice none 0 0) [] (by decide) (RowD.nil w), fun i hi => by
      have hi' : i < 8 := hi
      match i, hi' with
      | 0, _ | 1, _ | 2, _ | 3, _ | 4, _ | 5, _ | 6, _ | 7, _ => rfl⟩
  | 1, _ => exact ⟨_, hp ⟨#[98]⟩ (.slice none 0 0) [] (by decide) (RowD.nil w), fun i hi => by
      have hi' : i < 8 := hi
      match i, hi' with
      | 0, _ | 1, _ | 2, _ | 3, _ | 4, _ | 5, _ | 6, _ | 7, _ => rfl⟩
  | 2, _ => exact ⟨_, hp ⟨#[97]⟩ (.slice (some ⟨Y, 0, none⟩) 1 1) [dep10] (by decide) hdep, fun i hi => by
      have hi' : i < 8 := hi
      match i, hi' with
      | 0, _ | 1, _ | 2, _ | 3, _ | 4, _ | 5, _ | 6, _ | 7, _ => rfl⟩
theorem req10_is {w : World} {X : Nat} (hX : w.heap[X]? = some (.cells #[.string ⟨#[97]⟩, .slice none 0 0, .slice none 0 0, .int .i64 0] 75 (0, 0))) : RowD rootK w (.slice (some ⟨X, 0, none⟩) 1 1) req10 :=
  RowD.of_heap rfl hX (by simp [maxLen]) fun j hj => by
    obtain rfl : j = 0 := by omega
    exact ⟨_, ⟨_, _, rfl, ⟨(show (⟨#[97]⟩ : ByteArray).size ≤ maxLen by unfold maxLen; decide), RowD.nil w, RowD.nil w⟩, by decide⟩, fun i hi => by rw [Nat.zero_mul, Nat.zero_add]; exact List.getElem?_toArray⟩

/-- The example's blocks. -/
theorem ex10_is (w : World) : ∀ W, W = ((((w.alloc (.cells #[.string ⟨#[120]⟩, .string ⟨#[111, 110]⟩] 78)).alloc (.cells #[.string ⟨#[98]⟩, .slice none 0 0, .slice none 0 0, .string ⟨#[]⟩, .slice none 0 0, .slice (some ⟨w.heap.size, 0, none⟩) 1 1, .int .i64 0] 80)).alloc
    (.cells #[.string ⟨#[99]⟩, .int .i64 0, .slice none 0 0, .slice none 0 0, .slice none 0 0, .slice none 0 0, .slice none 0 0, .slice none 0 0,
      .string ⟨#[98]⟩, .int .i64 0, .slice none 0 0, .slice none 0 0, .slice none 0 0, .slice none 0 0, .slice none 0 0, .slice none 0 0,
      .string ⟨#[97]⟩, .int .i64 0, .slice none 0 0, .slice none 0 0, .slice none 0 0, .slice (some ⟨w.heap.size + 1, 0, none⟩) 1 1, .slice none 0 0, .slice none 0 0] 45)).alloc
    (.cells #[.slice (some ⟨w.heap.size + 2, 0, none⟩) 3 3, .slice none 0 0] 25)).alloc (.cells #[.string ⟨#[97]⟩, .slice none 0 0, .slice none 0 0, .int .i64 0] 75) →
    IsRec W (.slice (some ⟨w.heap.size + 2, 0, none⟩) 3 3) (.slice none 0 0) rec10 ∧ RowD rootK W (.slice (some ⟨w.heap.size + 4, 0, none⟩) 1 1) req10 ∧ Below w.heap.size w W := by
  intro W hW
  have h1 := heap_alloc_new w (.cells #[.string ⟨#[120]⟩, .string ⟨#[111, 110]⟩] 78)
  have b1 := below_alloc' w (.cells #[.string ⟨#[120]⟩, .string ⟨#[111, 110]⟩] 78)
  have s1 : (w.alloc (.cells #[.string ⟨#[120]⟩, .string ⟨#[111, 110]⟩] 78)).heap.size = w.heap.size + 1 := by simp
  generalize w.alloc (.cells #[.string ⟨#[120]⟩, .string ⟨#[111, 110]⟩] 78) = w1 at *
  generalize hc2 : (Obj.cells #[.string ⟨#[98]⟩, .slice none 0 0, .slice none 0 0, .string ⟨#[]⟩, .slice none 0 0, .slice (some ⟨w.heap.size, 0, none⟩) 1 1, .int .i64 0] 80) = o2 at *
  have h2 := heap_alloc_new w1 o2
  have b2 := below_alloc' w1 o2
  have s2 : (w1.alloc o2).heap.size = w.heap.size + 2 := by simp; omega
  generalize w1.alloc o2 = w2 at *
  generalize hc3 : (Obj.cells #[.string ⟨#[99]⟩, .int .i64 0, .slice none 0 0, .slice none 0 0, .slice none 0 0, .slice none 0 0, .slice none 0 0, .slice none 0 0,
      .string ⟨#[98]⟩, .int .i64 0, .slice none 0 0, .slice none 0 0, .slice none 0 0, .slice none 0 0, .slice none 0 0, .slice none 0 0,
      .string ⟨#[97]⟩, .int .i64 0, .slice none 0 0, .slice none 0 0, .slice none 0 0, .slice (some ⟨w.heap.size + 1, 0, none⟩) 1 1, .slice none 0 0, .slice none 0 0] 45) = o3 at *
  have h3 := heap_alloc_new w2 o3
  have b3 := below_alloc' w2 o3
  have s3 : (w2.alloc o3).heap.size = w.heap.size + 3 := by simp; omega
  generalize w2.alloc o3 = w3 at *
  generalize hc4 : (Obj.cells #[.slice (some ⟨w.heap.size + 2, 0, none⟩) 3 3, .slice none 0 0] 25) = o4 at *
  have b4 := below_alloc' w3 o4
  have s4 : (w3.alloc o4).heap.size = w.heap.size + 4 := by simp; omega
  generalize w3.alloc o4 = w4 at *
  have h5 := heap_alloc_new w4 (.cells #[.string ⟨#[97]⟩, .slice none 0 0, .slice none 0 0, .int .i64 0] 75)
  have b5 := below_alloc' w4 (.cells #[.string ⟨#[97]⟩, .slice none 0 0, .slice none 0 0, .int .i64 0] 75)
  rw [← hW] at h5 b5
  subst hc2; subst hc3
  rw [s1] at h2; rw [s2] at h3; rw [s4] at h5
  have b45 := b4.trans (b5.mono b4.size)
  have b35 := b3.trans (b45.mono b3.size)
  have b25 := b2.trans (b35.mono b2.size)
  exact ⟨rec10_is (heap_below h1 b25) (heap_below h2 b35) (heap_below h3 b45), req10_is h5, b1.trans (b25.mono b1.size)⟩

set_option maxRecDepth 100000 in
set_option maxHeartbeats 1600000 in
theorem fixed10_any (w : World) : Calls Try.prog 22 #[] w fun e w' => e = .returned (.bool true) ∧ Below w.heap.size w w' := by
  have HX := Lib.hid (ex10_is w _ rfl)
  go_enter Try.func22, Try.ntmps22
  go_wp2_with fail
  simp only [Nat.add_assoc, Nat.reduceAdd]
  refine (closure_any _ _ _ _ rec10 req10 HX.out.1 HX.out.2.1 (by decide)).mono ?_
  rw [close10]
  rintro e w2 ⟨A, n, c, rfl, hown, hb⟩
  have HB := Lib.hid (HX.out.2.2.trans (hb.mono HX.out.2.2.size))
  have hn : n = 2 := hown.len
  subst hn
  have hrow := hown.row (K := intK) rfl (fun y hy => ⟨rfl, by simp at hy; rcases hy with rfl | rfl <;> decide⟩)
  obtain ⟨b, off, rfl, _, _, c0⟩ := int_at hrow (j := 0) (by decide)
  obtain ⟨b', off', e1, _, _, c1⟩ := int_at hrow (j := 1) (by decide)
  cases e1
  have c0 : w2.cell? ⟨b, off, none⟩ = some (.int .i64 1) := c0
  have c1 : w2.cell? ⟨b, off + 1, none⟩ = some (.int .i64 2) := c1
  clear hown hb hrow HX
  go_wp2
  go_ret
  exact ⟨rfl, HB.out⟩
end Go.Proofs.Ytggejmojbebhfaa.Rc
