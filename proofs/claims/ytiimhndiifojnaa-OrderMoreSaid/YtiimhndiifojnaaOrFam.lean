/- Three rows of rows of the call's own. -/
import Derived.Test.YtiimhndiifojnaaToApp
import Derived.Test.YtiimhndiifojnaaOrMoreMath
import Derived.Test.YtiimhndiifojnaaOrCircle
namespace Go.Proofs.Ytiimhndiifojnaa.Or
open Go.RowKit To

def upd2 {α : Type} (V : Nat → Nat → α) (g p : Nat) (v : α) : Nat → Nat → α := fun a b => if a = g ∧ b = p then v else V a b
theorem upd2_same {α : Type} (V : Nat → Nat → α) (g p : Nat) (v : α) : upd2 V g p v g p = v := if_pos ⟨rfl, rfl⟩
theorem upd2_other {α : Type} {V : Nat → Nat → α} {g p a b : Nat} {v : α} (h : ¬ (a = g ∧ b = p)) : upd2 V g p v a b = V a b := if_neg h
def boxOf (V : Nat → Value) (n : Nat) : Array Value := ((List.range n).map V).toArray
theorem boxOf_get {V : Nat → Value} {n p : Nat} (h : p < n) : (boxOf V n)[p]? = some (V p) := by unfold boxOf; simp [h]
theorem boxOf_set {V : Nat → Nat → Value} {n g p : Nat} {v : Value} : (boxOf (V g) n).setIfInBounds p v = boxOf (upd2 V g p v g) n := by
  apply Array.ext
  · simp [boxOf]
  · intro i h1 h2
    simp [boxOf] at h1 h2
    rw [Array.getElem_setIfInBounds (by simpa [boxOf] using h1)]
    simp only [boxOf, List.getElem_toArray, List.getElem_map, List.getElem_range]
    by_cases e : p = i
    · subst e; rw [if_pos rfl, upd2_same]
    · rw [if_neg e, upd2_other (fun h => e h.2.symm)]
structure Fam (w0 w : World) (n : Nat) (V : Nat → Nat → Value) (R : Nat → Nat → List Int) : Prop where
  bel : Below w0.heap.size w0 w
  box : ∀ g, g < 3 → w.heap[w0.heap.size + g]? = some (.cells (boxOf (V g) n) 23 (0, 0))
  own : ∀ g p, g < 3 → p < n → OwnL w w0.heap.size (V g p) (R g p)
  apart : ∀ g p g' p', g < 3 → p < n → g' < 3 → p' < n → ∀ b, (V g p).ownBlock = some b → (V g' p').ownBlock = some b → g = g' ∧ p = p'
section
variable {w0 w : World} {n : Nat} {V : Nat → Nat → Value} {R : Nat → Nat → List Int}
theorem Fam.step {w' : World} (h : Fam w0 w n V R) (hb : Below w.heap.size w w') : Fam w0 w' n V R :=
  ⟨h.bel.trans (hb.mono h.bel.size), fun g hg => heap_below (h.box g hg) hb, fun g p hg hp => (h.own g p hg hp).below hb, h.apart⟩
theorem Fam.alloc (h : Fam w0 w n V R) (o : Obj) : Fam w0 (w.alloc o) n V R := h.step ((Below.refl _ _).alloc (Nat.le_refl _) _)
theorem Fam.drew (h : Fam w0 w n V R) : Fam w0 w.drew n V R := h.step ⟨rfl, rfl, rfl, Nat.le_refl _, fun _ _ => rfl⟩
theorem Fam.lt (h : Fam w0 w n V R) {g p b : Nat} (hg : g < 3) (hp : p < n) (e : (V g p).ownBlock = some b) : w0.heap.size + 3 ≤ b ∧ b < w.heap.size := by
  have h1 := (h.own g p hg hp).lt b e
  refine ⟨?_, h1.2⟩
  apply Classical.byContradiction
  intro hn
  have hx := h.box (b - w0.heap.size) (by omega)
  rw [show w0.heap.size + (b - w0.heap.size) = b by omega] at hx
  exact own_apart (h.own g p hg hp) hx (by decide) e
theorem Fam.cell (h : Fam w0 w n V R) {g p : Nat} (hg : g < 3) (hp : p < n) : w.cell? ⟨w0.heap.size + g, p, none⟩ = some (V g p) := cells_get (h.box g hg) p (boxOf_get hp)
/-- A row is laid in the place of another one. -/
theorem Fam.put {w3 : World} {v' : Value} {l' : List Int} {g p : Nat} (h : Fam w0 w n V R) (hg : g < 3) (hp : p < n) (ht : Touch w w3 (fun i => (V g p).ownBlock = some i)) (hown : OwnL w3 w0.heap.size v' l')
    (hfresh : ∀ b, v'.ownBlock = some b → (V g p).ownBlock = some b ∨ w.heap.size ≤ b) :
    Fam w0 (w3.setCell ⟨w0.heap.size + g, p, none⟩ v') n (upd2 V g p v') (upd2 R g p l') ∧ w3.heap[w0.heap.size + g]? = some (.cells (boxOf (V g) n) 23 (0, 0)) := by
  have hbox : ∀ g', g' < 3 → w3.heap[w0.heap.size + g']? = some (.cells (boxOf (V g') n) 23 (0, 0)) := fun g' hg' => heap_touch (h.box g' hg') ht (fun e => by have := (h.lt hg hp e).1; omega)
  have tt : Touch w3 (w3.setCell ⟨w0.heap.size + g, p, none⟩ v') (fun i => i = w0.heap.size + g) := (Touch.refl w3 _).set _ p v' rfl
  have hne : ∀ {v : Value} {l : List Int}, OwnL w3 w0.heap.size v l → ∀ b, v.ownBlock = some b → b ≠ w0.heap.size + g := fun ho b e e2 => by
    subst e2; exact own_apart ho (hbox g hg) (by decide) e
  refine ⟨⟨?_, fun g' hg' => ?_, fun g' p' hg' hp' => ?_, fun a b a' b' ha hb ha' hb' c hc hc' => ?_⟩, hbox g hg⟩
  · exact (Touch.belows h.bel ((ht.mono (T := fun i => (V g p).ownBlock = some i) (fun i hi => hi)).mono (T := fun i => (V g p).ownBlock = some i ∨ i = w0.heap.size + g) (fun i hi => .inl hi) |>.trans tt (fun i _ hi => .inr hi)) (Nat.le_refl _) (fun i hi => by
      rcases hi with hi | rfl
      · have := (h.lt hg hp hi).1; omega
      · omega))
  · by_cases e : g' = g
    · subst e
      rw [← boxOf_set]
      exact cells_set (hbox g' hg') p v'
    · have e3 : boxOf (upd2 V g p v' g') n = boxOf (V g') n := by unfold boxOf; congr 2; funext b; exact upd2_other (fun hh => e hh.1)
      rw [e3]
      exact heap_set_far (hbox g' hg') (by omega)
  · by_cases e : g' = g ∧ p' = p
    · obtain ⟨rfl, rfl⟩ := e
      rw [upd2_same, upd2_same]
      exact hown.touch tt (fun b hb e2 => hne hown b hb e2)
    · rw [upd2_other e, upd2_other e]
      have ho := h.own g' p' hg' hp'
      have ho3 : OwnL w3 w0.heap.size (V g' p') (R g' p') := ho.touch ht (fun b hb hb2 => e (h.apart g' p' g p hg' hp' hg hp b hb hb2))
      exact ho3.touch tt (fun b hb e2 => hne ho3 b hb e2)
  · by_cases e : a = g ∧ b = p
    · obtain ⟨rfl, rfl⟩ := e
      rw [upd2_same] at hc
      by_cases e' : a' = a ∧ b' = b
      · exact ⟨e'.1.symm, e'.2.symm⟩
      · rw [upd2_other e'] at hc'
        exfalso
        rcases hfresh c hc with hf | hf
        · exact e' ((h.apart a' b' a b ha' hb' ha hb c hc' hf))
        · have := (h.lt ha' hb' hc').2; omega
    · rw [upd2_other e] at hc
      by_cases e' : a' = g ∧ b' = p
      · obtain ⟨rfl, rfl⟩ := e'
        rw [upd2_same] at hc'
        exfalso
        rcases hfresh c hc' with hf | hf
        · exact e ((h.apart a b a' b' ha hb ha' hb' c hc hf))
        · have := (h.lt ha hb hc).2; omega
      · rw [upd2_other e'] at hc'
        exact h.apart a b a' b' ha hb ha' hb' c hc hc'
/-- As rows that are read. -/
theorem Fam.rows (h : Fam w0 w n V R) {g : Nat} (hg : g < 3) (hwf : ∀ p, p < n → ∀ y ∈ R g p, (Lit.int .i64 y).wf = true) : Rows2 w (w0.heap.size + g) 0 n (lenR (R g)) (atR (R g)) := fun r hr => by
  obtain ⟨A, L, c, e⟩ := (h.own g r hg hr).sl
  have ho := h.own g r hg hr
  rw [e] at ho
  obtain ⟨h1, h2, h3, h4⟩ := ho.open'
  unfold lenR
  refine ⟨by rw [← h1]; exact Nat.le_trans h2 h3, lt_of_heap (h.box g hg), A, c, by rw [Nat.zero_add, h.cell hg hr, e, h1], by rw [← h1]; exact h2, fun i hi => ?_⟩
  have hi' : i < L := by rw [h1]; exact hi
  obtain ⟨b, eA, _, hb, hc⟩ := h4 (by omega)
  refine ⟨?_, b, 0, eA, hb, by rw [Nat.zero_add]; exact hc i hi'⟩
  unfold atR
  rw [List.getElem?_eq_getElem hi]
  exact hwf r hr _ (List.getElem_mem hi)
end
/-- Three new ones. -/
theorem fam_start (w : World) (n : Nat) : Fam w (((w.alloc (.cells (boxOf (fun _ => .slice none 0 0) n) 23)).alloc (.cells (boxOf (fun _ => .slice none 0 0) n) 23)).alloc (.cells (boxOf (fun _ => .slice none 0 0) n) 23)) n (fun _ _ => .slice none 0 0) (fun _ _ => []) := by
  have hb1 : Below w.heap.size w (w.alloc (.cells (boxOf (fun _ => .slice none 0 0) n) 23)) := (Below.refl _ _).alloc (Nat.le_refl _) _
  have hb2 := hb1.alloc (o := .cells (boxOf (fun _ => .slice none 0 0) n) 23) hb1.size
  refine ⟨hb2.alloc hb2.size _, fun g hg => ?_, fun g p _ _ => OwnL.nil _ _, fun _ _ _ _ _ _ _ _ b hb => by cases hb⟩
  have hx0 := heap_alloc_new w (.cells (boxOf (fun _ => .slice none 0 0) n) 23)
  have hx1 := heap_alloc_new (w.alloc (.cells (boxOf (fun _ => .slice none 0 0) n) 23)) (.cells (boxOf (fun _ => .slice none 0 0) n) 23)
  have hx2 := heap_alloc_new ((w.alloc (.cells (boxOf (fun _ => .slice none 0 0) n) 23)).alloc (.cells (boxOf (fun _ => .slice none 0 0) n) 23)) (.cells (boxOf (fun _ => .slice none 0 0) n) 23)
  have ba : ∀ (u : World) (o : Obj), Below u.heap.size u (u.alloc o) := fun u o => (Below.refl _ _).alloc (Nat.le_refl _) _
  have h3 : g = 0 ∨ g = 1 ∨ g = 2 := by omega
  rcases h3 with rfl | rfl | rfl
  · exact heap_below (heap_below hx0 (ba _ _)) (ba _ _)
  · have := heap_below hx1 (ba _ (.cells (boxOf (fun _ => .slice none 0 0) n) 23))
    rw [World.size_alloc] at this
    exact this
  · rw [World.size_alloc, World.size_alloc] at hx2
    exact hx2
theorem slice_info' : (Try.prog.info? 23).map (fun i => (i.zero, i.size, i.bytes)) = some (some (.slice none 0 0), 1, 24) := by kernel_rfl
theorem make_rows (n : Nat) (hn : n ≤ 1000) (x : Int) (hx : x = n) (W : World) : (Instr.makeSlice 22 (.int .i64 x) (.int .i64 x)).run Try.prog W = .ok (.slice (some ⟨W.heap.size, 0, none⟩) n n) (W.alloc (.cells (boxOf (fun _ => .slice none 0 0) n) 23)) := by
  subst hx
  obtain ⟨i0, hi0, hz0, hz1, hz2⟩ := info_parts slice_info'
  rw [run_make (P := Try.prog) W 22 23 i0 _ Try.underlying22 hi0 hz0 .i64 .i64 n n (by omega) (by omega) (by rw [hz2]; omega) (by omega), hz1]
  have e : madeCells (Value.slice none 0 0).cells n = boxOf (fun _ => .slice none 0 0) n := by
    apply Array.ext'
    have := toList_madeCells_one (.slice none 0 0) n
    rw [show (Value.slice none 0 0).cells = #[.slice none 0 0] from rfl, this]
    simp [boxOf]
    apply List.ext_getElem
    · simp
    · intro i h1 h2; simp
  simp [e]
end Go.Proofs.Ytiimhndiifojnaa.Or
