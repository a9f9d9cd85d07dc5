/- Two places of a heap's row are exchanged. -/
import Derived.Test.YtnapkgnbkkilgaaHpState
import Derived.BigRegion
namespace Go.Proofs.Ytnapkgnbkkilgaa.Hp
open Go.RowKit

theorem own_set {w : World} {base n g c j : Nat} {e : TypeId} {u : Value} {xs : List Value} (h : w.ownsRow base e 1 (.slice (some ⟨g, 0, none⟩) n c) n xs) :
    (w.setCell ⟨g, j, none⟩ u).ownsRow base e 1 (.slice (some ⟨g, 0, none⟩) n c) n (xs.set j u) := by
  obtain ⟨h1, h2⟩ := h
  refine ⟨by simpa using h1, ?_⟩
  rcases h2 with ⟨h2, _⟩ | ⟨g', cap, cur, hv, hb, hh, hr⟩
  · cases h2
  · cases hv
    refine .inr ⟨g, c, cur.setIfInBounds j u, rfl, hb, cells_set hh j u, hr.1, hr.2.1, by simpa using hr.2.2.1, ?_⟩
    rw [← hr.2.2.2]
    simp [List.take_set]

theorem own_free {w : World} {base n g c size j : Nat} {e : TypeId} {xs : List Value} (h : w.ownsRow base e size (.slice (some ⟨g, 0, none⟩) n c) n xs) : w.frozen? ⟨g, j, none⟩ = false := by
  rcases h.2 with ⟨h2, _⟩ | ⟨g', cap, cur, hv, hb, hh, hr⟩
  · cases h2
  · cases hv
    exact cells_free hh j

theorem i64s_set (l : List Nat) (j a : Nat) : i64s (l.set j a) = (i64s l).set j (.int .i64 (a : Int)) := by simp [i64s]

theorem Hp.set_row {w : World} {base B S P R c j u n : Nat} {sc row pl : List Nat} (h : Hp w base B S P (.slice (some ⟨R, 0, none⟩) n c) sc row pl) (hn : n = row.length) :
    Hp (w.setCell ⟨R, j, none⟩ (.int .i64 (u : Int))) base B S P (.slice (some ⟨R, 0, none⟩) n c) sc (row.set j u) pl := by
  subst hn
  have hRB := own_apart h.own h.head (by decide)
  have hRS := own_apart h.own h.score (by decide)
  have hRP := h.apart
  simp only [Value.ownBlock, ne_eq, Option.some.injEq] at hRB hRS hRP
  refine ⟨heap_set_far h.head (Ne.symm hRB), heap_set_far h.score (Ne.symm hRS), heap_set_far h.place (Ne.symm hRP), ?_, h.apart, h.same, h.few, h.least⟩
  rw [i64s_set, List.length_set]
  exact own_set h.own

theorem Hp.set_place {w : World} {base B S P j u : Nat} {v : Value} {sc row pl : List Nat} (h : Hp w base B S P v sc row pl) {x : Int} (hx : x = u) :
    Hp (w.setCell ⟨P, j, none⟩ (.int .i64 x)) base B S P v sc row (pl.set j u) := by
  subst hx
  have hBP : B ≠ P := by
    rintro rfl; have := h.head; rw [h.place] at this; injection this with this; injection this with _ ht; exact absurd ht (by decide)
  have hSP : S ≠ P := by
    rintro rfl; have := h.score; rw [h.place] at this; injection this with this; injection this with _ ht; exact absurd ht (by decide)
  refine ⟨?_, heap_set_far h.score hSP, ?_, own_touch h.own (Touch.of_grown (S := fun i => i = P) (grown_set _ _ _ _) (fun i e => by cases e; rfl)) (fun g e e2 => h.apart (e2 ▸ e)), h.apart, by simpa using h.same, h.few, h.least⟩
  · rw [List.length_set]; exact heap_set_far h.head hBP
  · have := cells_set h.place j (.int .i64 (u : Int))
    rw [this, i64s_set]; simp

set_option maxRecDepth 100000 in
set_option maxHeartbeats 1600000 in
theorem swap_is (w : World) (base B S P : Nat) (v : Value) (sc row pl : List Nat) (h : Hp w base B S P v sc row pl) (p q a b : Nat) (hp : row[p]? = some a) (hq : row[q]? = some b) (la : a < sc.length) (lb : b < sc.length)
    (hab : p ≠ q → a ≠ b) (hr : row.length ≤ 65536) (x y : Int) (hx : x = p + 1) (hy : y = q + 1) :
    Calls Try.prog 20 #[.pointer (some ⟨B, 0, none⟩), .int .i64 x, .int .i64 y] w fun e w' => e = .returned (.tuple #[]) ∧
      Hp w' base B S P v sc ((row.set p b).set q a) ((pl.set a (q + 1)).set b (p + 1)) ∧ Touch w w' (fun i => i = P ∨ v.ownBlock = some i) := by
  obtain ⟨R, c, rfl⟩ := h.slice' hp
  have b1 := cells_get h.head 1 (v := .slice (some ⟨R, 0, none⟩) row.length c) rfl
  have b2 := cells_get h.head 2 (v := .slice (some ⟨P, 0, none⟩) pl.length pl.length) rfl
  have rp := h.row_cell hp
  have rq := h.row_cell hq
  have fp := own_free (j := p) h.own
  have fq := own_free (j := q) h.own
  obtain ⟨a0, ha0⟩ : ∃ z, pl[a]? = some z := ⟨_, List.getElem?_eq_getElem (by rw [h.same]; exact la)⟩
  obtain ⟨b0, hb0⟩ : ∃ z, pl[b]? = some z := ⟨_, List.getElem?_eq_getElem (by rw [h.same]; exact lb)⟩
  have pa := h.place_cell ha0
  have pb := h.place_cell hb0
  have ga := cells_free h.place a
  have gb := cells_free h.place b
  have few := h.few
  have same := h.same
  have lp := lt_get hp
  have lq := lt_get hq
  have hRB := own_apart h.own h.head (by decide)
  have hRP := h.apart
  have hBP : B ≠ P := by
    rintro rfl; have := h.head; rw [h.place] at this; injection this with this; injection this with _ ht; exact absurd ht (by decide)
  simp only [Value.ownBlock, ne_eq, Option.some.injEq] at hRB hRP
  have hPB : ¬ P = B := fun e => hBP e.symm
  have hBR : ¬ B = R := fun e => hRB e.symm
  have hPR : ¬ P = R := fun e => hRP e.symm
  have i1 : (0 : Int) ≤ (p : Int) := by omega
  have i2 : (p : Int) < (row.length : Int) := by omega
  have i3 : (0 : Int) ≤ (q : Int) := by omega
  have i4 : (q : Int) < (row.length : Int) := by omega
  have i5 : (0 : Int) ≤ (a : Int) := by omega
  have i6 : (a : Int) < (pl.length : Int) := by omega
  have i7 : (0 : Int) ≤ (b : Int) := by omega
  have i8 : (b : Int) < (pl.length : Int) := by omega
  have wx : IntKind.i64.wrap (x - 1) = (p : Int) := by subst hx; rw [IntWalk.i64_in _ (by omega)]; omega
  have wy : IntKind.i64.wrap (y - 1) = (q : Int) := by subst hy; rw [IntWalk.i64_in _ (by omega)]; omega
  have H := Lib.hid h
  have HP := Lib.hid hp
  have HQ := Lib.hid hq
  have HX := Lib.hid hx
  have HY := Lib.hid hy
  clear h hp hq hx hy ha0 hb0 same
  by_cases hpq : p = q
  · subst hpq
    obtain rfl : a = b := Option.some.inj (HP.out.symm.trans HQ.out)
    clear hab
    go_enter Try.func20, Try.ntmps20
    go_wp2
    go_quiet (fail)
    go_wp2
    go_region_held3 (fun w' => w'.cell? ⟨B, 1, none⟩ = some (.slice (some ⟨R, 0, none⟩) row.length c)) (go_keep) (fail)
    go_wp2
    go_region_held3 (fun w' => w'.cell? ⟨B, 2, none⟩ = some (.slice (some ⟨P, 0, none⟩) pl.length pl.length)) (go_keep) (fail)
    go_wp2
    go_end0
    obtain rfl := HX.out
    obtain rfl := HY.out
    refine ⟨rfl, ?_, ?_⟩
    · exact (((((H.out.drewN _).set_row (j := p) (u := a) rfl).set_row (j := p) (u := a) (by simp)).set_place (j := a) (u := p + 1) (by simp)).set_place (j := a) (u := p + 1) (by simp)).drew
    · have t0 : Touch w w (fun i => i = P ∨ (Value.slice (some ⟨R, 0, none⟩) row.length c).ownBlock = some i) := Touch.refl _ _
      exact (((((t0.drewN _).set R p _ (.inr rfl)).set R p _ (.inr rfl)).set P a _ (.inl rfl)).set P a _ (.inl rfl)).drew
  · have n1 := hab hpq
    have n2 : ¬ q = p := fun e => hpq e.symm
    have n3 : ¬ b = a := fun e => n1 e.symm
    clear hab
    go_enter Try.func20, Try.ntmps20
    go_wp2
    go_quiet (fail)
    go_wp2
    go_region_held3 (fun w' => w'.cell? ⟨B, 1, none⟩ = some (.slice (some ⟨R, 0, none⟩) row.length c)) (go_keep) (fail)
    go_wp2
    go_region_held3 (fun w' => w'.cell? ⟨B, 2, none⟩ = some (.slice (some ⟨P, 0, none⟩) pl.length pl.length)) (go_keep) (fail)
    go_wp2
    go_end0
    obtain rfl := HX.out
    obtain rfl := HY.out
    refine ⟨rfl, ?_, ?_⟩
    · exact (((((H.out.drewN _).set_row (j := p) (u := b) rfl).set_row (j := q) (u := a) (by simp)).set_place (j := a) (u := q + 1) (by simp)).set_place (j := b) (u := p + 1) (by simp)).drew
    · have t0 : Touch w w (fun i => i = P ∨ (Value.slice (some ⟨R, 0, none⟩) row.length c).ownBlock = some i) := Touch.refl _ _
      exact (((((t0.drewN _).set R p _ (.inr rfl)).set R q _ (.inr rfl)).set P a _ (.inl rfl)).set P b _ (.inl rfl)).drew

end Go.Proofs.Ytnapkgnbkkilgaa.Hp
