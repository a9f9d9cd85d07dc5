/- A heap's memory, and what is ahead. -/
import Derived.Test.YtnapkgnbkkilgaaRows
import Derived.Test.YtnapkgnbkkilgaaMem
namespace Go.Proofs.Ytnapkgnbkkilgaa.Hp
open Go.RowKit

def i64s (l : List Nat) : List Value := l.map fun (a : Nat) => .int .i64 (a : Int)
def u64s (l : List Nat) : List Value := l.map fun (a : Nat) => .int .u64 (a : Int)

theorem i64s_get {l : List Nat} {p a : Nat} (h : l[p]? = some a) : (i64s l)[p]? = some (.int .i64 (a : Int)) := by simp [i64s, h]
theorem u64s_get {l : List Nat} {p a : Nat} (h : l[p]? = some a) : (u64s l)[p]? = some (.int .u64 (a : Int)) := by simp [u64s, h]

/-- A heap in the block B: its scores in S, its places in P, its row is v. -/
structure Hp (w : World) (base B S P : Nat) (v : Value) (sc row pl : List Nat) : Prop where
  head : w.heap[B]? = some (.cells #[.slice (some ⟨S, 0, none⟩) sc.length sc.length, v, .slice (some ⟨P, 0, none⟩) pl.length pl.length] 44 (0, 0))
  score : w.heap[S]? = some (.cells (u64s sc).toArray 28 (0, 0))
  place : w.heap[P]? = some (.cells (i64s pl).toArray 3 (0, 0))
  own : w.ownsRow base 3 1 v row.length (i64s row)
  apart : v.ownBlock ≠ some P
  same : pl.length = sc.length
  few : sc.length ≤ 65537
  least : base ≤ B ∧ base ≤ S ∧ base ≤ P

theorem Hp.drewN {w : World} {base B S P : Nat} {v : Value} {sc row pl : List Nat} (h : Hp w base B S P v sc row pl) (n : Nat) : Hp (w.drewN n) base B S P v sc row pl :=
  ⟨h.head, h.score, h.place, h.own, h.apart, h.same, h.few, h.least⟩
theorem Hp.drew {w : World} {base B S P : Nat} {v : Value} {sc row pl : List Nat} (h : Hp w base B S P v sc row pl) : Hp w.drew base B S P v sc row pl :=
  ⟨h.head, h.score, h.place, h.own, h.apart, h.same, h.few, h.least⟩
theorem Hp.below {w w' : World} {base B S P : Nat} {v : Value} {sc row pl : List Nat} (h : Hp w base B S P v sc row pl) (hb : Below w.heap.size w w') : Hp w' base B S P v sc row pl :=
  ⟨heap_below h.head hb, heap_below h.score hb, heap_below h.place hb, own_touch h.own (Touch.of_below (S := fun _ => False) hb) (fun _ _ h => h), h.apart, h.same, h.few, h.least⟩

/-- The row's slice. -/
theorem Hp.slice {w : World} {base B S P : Nat} {v : Value} {sc row pl : List Nat} (h : Hp w base B S P v sc row pl) : ∃ A c, v = .slice A row.length c := by
  rcases own_len h.own with ⟨e, h0⟩ | ⟨g, cap, e⟩
  · exact ⟨none, 0, by rw [e, h0]⟩
  · exact ⟨_, _, e⟩
theorem Hp.slice' {w : World} {base B S P p a : Nat} {v : Value} {sc row pl : List Nat} (h : Hp w base B S P v sc row pl) (hp : row[p]? = some a) : ∃ R c, v = .slice (some ⟨R, 0, none⟩) row.length c := by
  rcases own_len h.own with ⟨e, h0⟩ | ⟨g, cap, e⟩
  · have := (List.getElem?_eq_some_iff.1 hp).1; omega
  · exact ⟨_, _, e⟩

theorem Hp.row_cell {w : World} {base B S P R c p a : Nat} {sc row pl : List Nat} {n : Nat} (h : Hp w base B S P (.slice (some ⟨R, 0, none⟩) n c) sc row pl) (hp : row[p]? = some a) : w.cell? ⟨R, p, none⟩ = some (.int .i64 (a : Int)) := by
  have := h.own.cells (g := R) rfl p _ (i64s_get hp)
  unfold Addr.add at this
  split at this <;> simp_all
theorem Hp.score_cell {w : World} {base B S P p a : Nat} {v : Value} {sc row pl : List Nat} (h : Hp w base B S P v sc row pl) (hp : sc[p]? = some a) : w.cell? ⟨S, p, none⟩ = some (.int .u64 (a : Int)) :=
  cells_get h.score p (by simpa using u64s_get hp)
theorem Hp.place_cell {w : World} {base B S P p a : Nat} {v : Value} {sc row pl : List Nat} (h : Hp w base B S P v sc row pl) (hp : pl[p]? = some a) : w.cell? ⟨P, p, none⟩ = some (.int .i64 (a : Int)) :=
  cells_get h.place p (by simpa using i64s_get hp)

/-- Does the atom a, of the score s, stand ahead of b, of the score t? -/
def aheadB (s t a b : Nat) : Bool := if s = t then decide (a < b) else decide (t < s)

theorem lt_get {l : List Nat} {p a : Nat} (h : l[p]? = some a) : p < l.length := (List.getElem?_eq_some_iff.1 h).1

set_option maxRecDepth 100000 in
set_option maxHeartbeats 800000 in
theorem ahead_is (w : World) (base B S P : Nat) (v : Value) (sc row pl : List Nat) (h : Hp w base B S P v sc row pl) (p q a b s t : Nat) (hp : row[p]? = some a) (hq : row[q]? = some b) (hs : sc[a]? = some s) (ht : sc[b]? = some t)
    (hr : row.length ≤ 65536) (x y : Int) (hx : x = p + 1) (hy : y = q + 1) (r : Bool) (hrr : aheadB s t a b = r) :
    Calls Try.prog 21 #[.pointer (some ⟨B, 0, none⟩), .int .i64 x, .int .i64 y] w fun e w' => e = .returned (.bool r) ∧ ∃ n, w' = w.drewN n := by
  subst hrr
  obtain ⟨R, c, rfl⟩ := h.slice' hp
  have b1 := cells_get h.head 1 (v := .slice (some ⟨R, 0, none⟩) row.length c) rfl
  have b0 := cells_get h.head 0 (v := .slice (some ⟨S, 0, none⟩) sc.length sc.length) rfl
  have rp := h.row_cell hp
  have rq := h.row_cell hq
  have sa := h.score_cell hs
  have sb := h.score_cell ht
  have few := h.few
  have lp := lt_get hp
  have lq := lt_get hq
  have la := lt_get hs
  have lb := lt_get ht
  have i1 : (0 : Int) ≤ (p : Int) := by omega
  have i2 : (p : Int) < (row.length : Int) := by omega
  have i3 : (0 : Int) ≤ (q : Int) := by omega
  have i4 : (q : Int) < (row.length : Int) := by omega
  have i5 : (0 : Int) ≤ (a : Int) := by omega
  have i6 : (a : Int) < (sc.length : Int) := by omega
  have i7 : (0 : Int) ≤ (b : Int) := by omega
  have i8 : (b : Int) < (sc.length : Int) := by omega
  have wx : IntKind.i64.wrap (x - 1) = (p : Int) := by subst hx; rw [IntWalk.i64_in _ (by omega)]; omega
  have wy : IntKind.i64.wrap (y - 1) = (q : Int) := by subst hy; rw [IntWalk.i64_in _ (by omega)]; omega
  clear h hp hq hs ht hx hy
  by_cases hst : s = t
  · subst hst
    go_enter Try.func21, Try.ntmps21
    go_wp2
    go_quiet (fail)
    go_wp2
    go_quiet (fail)
    go_wp2
    go_ret
    exact ⟨by simp [aheadB], _, rfl⟩
  · have hst2 : ((s : Int) == (t : Int)) = false := by simp; omega
    go_enter Try.func21, Try.ntmps21
    go_wp2
    go_quiet (fail)
    go_wp2
    go_quiet (fail)
    go_wp2
    go_quiet (fail)
    go_wp2
    go_ret
    exact ⟨by simp [aheadB, hst], _, by rw [World.drewN_drewN, World.drewN_drewN]⟩

end Go.Proofs.Ytnapkgnbkkilgaa.Hp
