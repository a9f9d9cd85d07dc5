/- find: the place of an atom in a row; and more of a table's calls. -/
import Derived.Test.YtmobhphjpkpidaaAtoms
import Derived.Laws.StructEq
namespace Go.Proofs.Ytmobhphjpkpidaa.At
open Go.RowKit

/-- A row of atoms in memory: k-th cells. -/
def Row (w : World) (A : Option Addr) (l : List Atom) : Prop :=
  ∀ i x, l[i]? = some x → ∃ b off, A = some ⟨b, off, none⟩ ∧ b < w.heap.size ∧ w.cell? ⟨b, off + i * 4, none⟩ = some (.int .u8 x.k) ∧ w.cell? ⟨b, off + i * 4 + 1, none⟩ = some (.int .i64 x.a) ∧ w.cell? ⟨b, off + i * 4 + 2, none⟩ = some (.int .i64 x.b) ∧ w.cell? ⟨b, off + i * 4 + 3, none⟩ = some (.int .i64 x.c)

theorem Row.below {w w' : World} {A : Option Addr} {l : List Atom} (h : Row w A l) (hb : Below w.heap.size w w') : Row w' A l := by
  intro i x hx
  obtain ⟨b, off, e, hl, h0, h1, h2, h3⟩ := h i x hx
  exact ⟨b, off, e, Nat.lt_of_lt_of_le hl hb.size, (hb.cell (p := ⟨b, _, none⟩) hl).trans h0, (hb.cell (p := ⟨b, _, none⟩) hl).trans h1, (hb.cell (p := ⟨b, _, none⟩) hl).trans h2, (hb.cell (p := ⟨b, _, none⟩) hl).trans h3⟩

theorem place_get {l : List Atom} {x : Atom} {k : Nat} (hk : ∀ (i : Nat) (y : Atom), i < k → l[i]? = some y → y ≠ x) (h : l[k]? = some x) : place l x = k + 1 := by
  induction l generalizing k with
  | nil => simp at h
  | cons y l ih =>
    cases k with
    | zero => simp at h; simp [place, h]
    | succ k =>
      have h1 := hk 0 y (by omega) rfl
      simp only [place, if_neg h1]
      have := ih (k := k) (fun i z hi hz => hk (i + 1) z (by omega) (by simpa using hz)) (by simpa using h)
      rw [this]; simp

theorem place_none {l : List Atom} {x : Atom} (h : ∀ (i : Nat) (y : Atom), l[i]? = some y → y ≠ x) : place l x = 0 := by
  induction l with
  | nil => rfl
  | cons y l ih =>
    have h1 := h 0 y rfl
    simp only [place, if_neg h1]
    rw [ih (fun i z hz => h (i + 1) z (by simpa using hz))]; simp

set_option maxRecDepth 100000 in
set_option maxHeartbeats 1600000 in
theorem find_is (w : World) (A : Option Addr) (cap : Nat) (l : List Atom) (h : Row w A l) (hl : l.length ≤ 1000) (k a b c : Int) :
    Calls Try.prog 13 #[.slice A l.length cap, .agg #[.int .u8 k, .int .i64 a, .int .i64 b, .int .i64 c]] w fun e w' => e = .returned (.int .i64 (place l ⟨k, a, b, c⟩)) ∧ Below w.heap.size w w' := by
  have H := Lib.hid h
  clear h
  go_enter Try.func13, Try.ntmps13
  go_wp2
  go_loopw [9] (fun t wr => ∃ i : Nat, t = .int .i64 (i : Int) ∧ i ≤ l.length ∧ (∀ j y, j < i → l[j]? = some y → y ≠ ⟨k, a, b, c⟩) ∧ Below (w.heap.size + 1) (w.alloc (.cells #[.int .u8 k, .int .i64 a, .int .i64 b, .int .i64 c] 23)) wr) (fun t _ => l.length - (intOf t).toNat)
  case atStart => exact ⟨0, rfl, by omega, fun _ _ h => absurd h (by omega), Below.refl _ _⟩
  case round =>
    obtain ⟨i, rfl, hi, hne, hb⟩ := hrel
    have hbox := (hb.block w.heap.size (by omega)).trans (heap_alloc_new w (.cells #[.int .u8 k, .int .i64 a, .int .i64 b, .int .i64 c] 23))
    have x0 := cells_get hbox 0 (v := .int .u8 k) rfl
    have x1 := cells_get hbox 1 (v := .int .i64 a) rfl
    have x2 := cells_get hbox 2 (v := .int .i64 b) rfl
    have x3 := cells_get hbox 3 (v := .int .i64 c) rfl
    have lx := lt_of_heap hbox
    have hbw : Below w.heap.size w wr := ((Below.refl _ _).alloc (Nat.le_refl _) _).trans (hb.mono (by omega))
    have HB := Lib.hid hb
    have HBW := Lib.hid hbw
    have HNE := Lib.hid hne
    clear hbox hb hbw hne
    by_cases hlt : i < l.length
    · obtain ⟨y, hy⟩ : ∃ y, l[i]? = some y := ⟨_, List.getElem?_eq_getElem hlt⟩
      obtain ⟨B, off, rfl, hB, h0, h1, h2, h3⟩ := (H.out.below HBW.out) i y hy
      have HY := Lib.hid hy
      clear hy
      by_cases e : y = ⟨k, a, b, c⟩
      · subst e
        go_wp2
        go_ret
        exact ⟨by rw [place_get HNE.out HY.out]; simp, HBW.out.alloc HBW.out.size _⟩
      · obtain ⟨yk, ya, yb, yc⟩ := y
        have HE := Lib.hid e
        have hd : (yk == k) = false ∨ (yk = k ∧ (ya == a) = false) ∨ (yk = k ∧ ya = a ∧ (yb == b) = false) ∨ (yk = k ∧ ya = a ∧ yb = b ∧ (yc == c) = false) := by
          by_cases e1 : yk = k
          · by_cases e2 : ya = a
            · by_cases e3 : yb = b
              · by_cases e4 : yc = c
                · exact absurd (by rw [e1, e2, e3, e4]) e
                · exact .inr (.inr (.inr ⟨e1, e2, e3, by simpa using e4⟩))
              · exact .inr (.inr (.inl ⟨e1, e2, by simpa using e3⟩))
            · exact .inr (.inl ⟨e1, by simpa using e2⟩)
          · exact .inl (by simpa using e1)
        clear e
        rcases hd with hd | ⟨rfl, hd⟩ | ⟨rfl, rfl, hd⟩ | ⟨rfl, rfl, rfl, hd⟩
        all_goals
          go_wp2
          go_roundw
          case rel =>
            refine ⟨i + 1, by first | rfl | go_num, by omega, fun j z hj hz => ?_, HB.out.alloc (by omega) _⟩
            by_cases e : j = i
            · subst e
              have := HY.out
              rw [hz] at this
              cases Option.some.inj this
              exact HE.out
            · exact HNE.out j z (by omega) hz
          case measure => simp [intOf]; omega
    · go_wp2
      go_ret
      exact ⟨by rw [place_none (fun j z hz => HNE.out j z (by have := (List.getElem?_eq_some_iff.1 hz).1; omega) hz)]; rfl, HBW.out⟩

end Go.Proofs.Ytmobhphjpkpidaa.At
