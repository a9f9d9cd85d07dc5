/- A full table, and At. -/
import Derived.Test.YtmobhphjpkpidaaAtFind
namespace Go.Proofs.Ytmobhphjpkpidaa.At
open Go.RowKit

theorem flat_get : ∀ (l : List Atom) (i : Nat) (x : Atom), l[i]? = some x → (l.flatMap Atom.cells)[i * 4]? = some (.int .u8 x.k) ∧ (l.flatMap Atom.cells)[i * 4 + 1]? = some (.int .i64 x.a) ∧ (l.flatMap Atom.cells)[i * 4 + 2]? = some (.int .i64 x.b) ∧ (l.flatMap Atom.cells)[i * 4 + 3]? = some (.int .i64 x.c)
  | [], _, _, h => by simp at h
  | y :: l, 0, x, h => by
    simp at h; subst h
    simp [Atom.cells]
  | y :: l, i + 1, x, h => by
    have := flat_get l i x (by simpa using h)
    have e : ∀ j, (List.flatMap Atom.cells (y :: l))[(i + 1) * 4 + j]? = (l.flatMap Atom.cells)[i * 4 + j]? := by
      intro j
      rw [List.flatMap_cons, List.getElem?_append_right (by simp [Atom.cells]; omega)]
      congr 1
      simp [Atom.cells]; omega
    exact ⟨(e 0).trans this.1, (e 1).trans this.2.1, (e 2).trans this.2.2.1, (e 3).trans this.2.2.2⟩

theorem own_row {w : World} {base n c : Nat} {A : Option Addr} {l : List Atom} (h : w.ownsRow base 23 4 (.slice A n c) n (l.flatMap Atom.cells)) : Row w A l := by
  intro i x hx
  rcases own_len h with ⟨e, h0⟩ | ⟨g, cap, e⟩
  · have := h.1
    subst h0
    have hl : l.length = 0 := by
      cases l with
      | nil => rfl
      | cons y l => simp [Atom.cells] at this
    have := (List.getElem?_eq_some_iff.1 hx).1
    omega
  · injection e with e1 e2 e3
    subst e1
    obtain ⟨h0, h1, h2, h3⟩ := flat_get l i x hx
    have hc := h.cells (g := g) rfl
    have hadd : ∀ j, (⟨g, 0, none⟩ : Addr).add j = ⟨g, 0 + j, none⟩ := by intro j; unfold Addr.add; split <;> simp_all
    have H : ∀ j v, (l.flatMap Atom.cells)[j]? = some v → w.cell? ⟨g, 0 + j, none⟩ = some v := fun j v hv => by have := hc j v hv; rw [hadd] at this; exact this
    exact ⟨g, 0, rfl, (h.lt g rfl).2, H _ _ h0, by have := H _ _ h1; simpa [Nat.add_assoc] using this, by have := H _ _ h2; simpa [Nat.add_assoc] using this, by have := H _ _ h3; simpa [Nat.add_assoc] using this⟩

theorem Tb.touch {w w' : World} {base B M : Nat} {lim : Int} {full : Bool} {v : Value} {l : List Atom} {S : Nat → Prop} (h : Tb w base B M lim full v l) (ht : Touch w w' S) (h1 : ¬ S B) (h2 : ¬ S M) (h3 : ∀ g, v.ownBlock = some g → ¬ S g) : Tb w' base B M lim full v l := by
  obtain ⟨g1, ⟨D, ⟨es, cl, g2, F, hs, hD⟩, g3, g4⟩, g5⟩ := h
  exact ⟨heap_touch g1 ht h1, ⟨D, ⟨es, cl, heap_touch g2 ht h2, F, hs, hD⟩, g3, g4⟩, own_touch g5 ht h3⟩

set_option maxRecDepth 100000 in
set_option maxHeartbeats 1600000 in
theorem number_full (w : World) (base B M : Nat) (lim : Int) (full : Bool) (v : Value) (l : List Atom) (h : Tb w base B M lim full v l) (k a b c : Int) (hx : (Atom.mk k a b c).wf) (h0 : place l ⟨k, a, b, c⟩ = 0)
    (hl : lim ≤ (l.length : Int)) :
    Calls Try.prog 7 #[.pointer (some ⟨B, 0, none⟩), .agg #[.int .u8 k, .int .i64 a, .int .i64 b, .int .i64 c]] w fun e w' => e = .returned (.int .i64 0) ∧ Tb w' base B M lim true v l ∧ Touch w w' (fun i => i = B) := by
  obtain ⟨A, cp, rfl⟩ : ∃ A c, v = .slice A l.length c := by
    rcases own_len h.2.2 with ⟨e, h0⟩ | ⟨g, cap, e⟩
    · exact ⟨none, 0, by rw [e, h0]⟩
    · exact ⟨_, _, e⟩
  have H := Lib.hid h
  have HN := Lib.hid h0
  clear h h0
  go_enter Try.func7, Try.ntmps7
  go_wp2_with fail
  refine (look_is _ base B M lim full _ l (H.out.below ((Below.refl _ _).alloc (Nat.le_refl _) _)) k a b c hx 0 (by rw [HN.out]; rfl)).mono ?_
  rintro e w1 ⟨rfl, hb⟩
  have hb1 := ((Below.refl w.heap.size w).alloc (Nat.le_refl _) (.cells #[.int .u8 k, .int .i64 a, .int .i64 b, .int .i64 c] 23)).trans (hb.mono (by simp))
  have h1 := H.out.below hb1
  have c0 := cells_get h1.1 0 (v := .int .i64 lim) rfl
  have c2 := cells_get h1.1 2 (v := .slice A l.length cp) rfl
  have c4 := cells_get h1.1 4 (v := .bool full) rfl
  have f4 := cells_free h1.1 4
  have lB := lt_of_heap h1.1
  have H1 := Lib.hid h1
  have HB1 := Lib.hid hb1
  clear hb h1 hb1
  go_wp2_with fail
  go_quiet (fail)
  go_wp2
  go_ret
  obtain ⟨g1, ⟨D, g2, g3, g4⟩, g5⟩ := H1.out.below (below_draws (Below.refl _ _) nq)
  have hBM := map_ne g1 g2
  have hap := own_apart g5 g1 (by decide)
  refine ⟨rfl, ⟨cells_set g1 4 _, ⟨D, g2.kept (grown_set _ _ _ _) (by simpa using Ne.symm hBM), g3, g4⟩, own_touch g5 (Touch.of_grown (S := fun i => i = B) (grown_set _ _ _ _) (fun i e => by cases e; rfl)) (fun g e e2 => hap (e2 ▸ e))⟩, ?_⟩
  have t0 : Touch w w1 (fun i => i = B) := Touch.of_below HB1.out
  exact (t0.drewN _).set B 4 _ rfl

set_option maxRecDepth 100000 in
set_option maxHeartbeats 1600000 in
theorem at_is (w : World) (base B M : Nat) (lim : Int) (full : Bool) (v : Value) (l : List Atom) (h : Tb w base B M lim full v l) (i : Nat) (x : Atom) (hx : l[i]? = some x) (hl : l.length ≤ 65536) (n : Int) (hn : n = i + 1) :
    Calls Try.prog 5 #[.pointer (some ⟨B, 0, none⟩), .int .i64 n] w fun e w' => e = .returned (.tuple #[.agg #[.int .u8 x.k, .int .i64 x.a, .int .i64 x.b, .int .i64 x.c], .bool true]) ∧ Below w.heap.size w w' := by
  subst hn
  obtain ⟨A, cp, rfl⟩ : ∃ A c, v = .slice A l.length c := by
    rcases own_len h.2.2 with ⟨e, h0⟩ | ⟨g, cap, e⟩
    · exact ⟨none, 0, by rw [e, h0]⟩
    · exact ⟨_, _, e⟩
  obtain ⟨g, off, rfl, hg, h0, h1, h2, h3⟩ := own_row h.2.2 i x hx
  have li : i < l.length := (List.getElem?_eq_some_iff.1 hx).1
  have c2 := cells_get h.1 2 (v := .slice (some ⟨g, off, none⟩) l.length cp) rfl
  have lB := lt_of_heap h.1
  have i1 : (0 : Int) ≤ (i : Int) := by omega
  have i2 : (i : Int) < (l.length : Int) := by omega
  have H := Lib.hid (h.below ((Below.refl _ _).alloc (Nat.le_refl _) (.cells #[.int .u8 0, .int .i64 0, .int .i64 0, .int .i64 0] 23)))
  clear h hx
  go_enter Try.func5, Try.ntmps5
  go_wp2_with (go_at_call 10; refine (len_is _ base B M lim full _ l H.out).mono ?_; rintro e w1 ⟨rfl, rfl⟩)
  refine bodyPost_ret (v := .tuple #[.agg #[.int .u8 x.k, .int .i64 x.a, .int .i64 x.b, .int .i64 x.c], .bool true]) (by simp [results, Try.results5, go_sem]) rfl ⟨rfl, ?_⟩
  exact (Below.refl _ _).alloc (Nat.le_refl _) _

end Go.Proofs.Ytmobhphjpkpidaa.At
