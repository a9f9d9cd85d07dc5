/- What OrderMore has laid so far: plain mathematics. -/
import Derived.Test.YtiimhndiifojnaaOrFam
namespace Go.Proofs.Ytiimhndiifojnaa.Or
open Go.RowKit To

def wfI (y : Int) : Prop := (Lit.int .i64 y).wf = true
theorem wfI_nat {q : Nat} (h : q ≤ 1000) : wfI (q : Int) := WalkArith.wf_i64 (by omega)
structure Inv (n : Nat) (Ln : Nat → Nat) (Z : Nat → Nat → Int) (m p k c : Nat) (R : Nat → Nat → List Int) : Prop where
  more : ∀ q, q < m → R 0 q = rowK Z q (Ln q)
  bs : ∀ t, t < n → ∀ y ∈ R 1 t, ∃ q : Nat, q < n ∧ y = (q : Int) ∧ Edge Ln Z q t
  bf : ∀ q t : Nat, q < p → t < n → Edge Ln Z q t → (q : Int) ∈ R 1 t
  bp : ∀ i t : Nat, i < k → t < n → Z p i = (t : Int) → (p : Int) ∈ R 1 t
  us : ∀ q, q < n → ∀ y ∈ R 2 q, (q : Int) < y ∧ wfI y
  len : ∀ t, (R 1 t).length ≤ c ∧ (R 2 t).length ≤ c
section
variable {n : Nat} {Ln : Nat → Nat} {Z : Nat → Nat → Int} {m p k c : Nat} {R : Nat → Nat → List Int}
theorem Inv.start (n : Nat) (Ln : Nat → Nat) (Z : Nat → Nat → Int) : Inv n Ln Z 0 0 0 0 (fun _ _ => []) :=
  ⟨fun q h => absurd h (Nat.not_lt_zero q), fun _ _ _ h => (by cases h), fun q _ h => absurd h (Nat.not_lt_zero q), fun i _ h => absurd h (Nat.not_lt_zero i), fun _ _ _ h => (by cases h), fun _ => ⟨Nat.zero_le _, Nat.zero_le _⟩⟩
theorem upd2_g {α : Type} {V : Nat → Nat → α} {g p a b : Nat} {v : α} (h : a ≠ g) : upd2 V g p v a b = V a b := upd2_other fun e => h e.1
theorem Inv.lay (h : Inv n Ln Z p p 0 c R) : Inv n Ln Z (p + 1) p 0 c (upd2 R 0 p (rowK Z p (Ln p))) := by
  refine ⟨fun q hq => ?_, fun t ht y hy => h.bs t ht y (by rwa [upd2_g (by decide)] at hy), fun q t hq ht e => by rw [upd2_g (by decide)]; exact h.bf q t hq ht e, fun i _ hi => absurd hi (Nat.not_lt_zero i),
    fun q hq y hy => h.us q hq y (by rwa [upd2_g (by decide)] at hy), fun t => by rw [upd2_g (by decide), upd2_g (by decide)]; exact h.len t⟩
  by_cases e : q = p
  · subst e; exact upd2_same _ _ _ _
  · rw [upd2_other (fun hh => e hh.2)]; exact h.more q (by omega)
theorem Inv.out (h : Inv n Ln Z m p k c R) (hz : ∀ t : Nat, t < n → Z p k ≠ (t : Int)) : Inv n Ln Z m p (k + 1) c R :=
  ⟨h.more, h.bs, h.bf, fun i t hi ht e => by
    by_cases ei : i = k
    · subst ei; exact absurd e (hz t ht)
    · exact h.bp i t (by omega) ht e, h.us, h.len⟩
theorem Inv.back {t : Nat} (h : Inv n Ln Z m p k c R) (hp : p < n) (hk : k < Ln p) (ht : t < n) (hz : Z p k = (t : Int)) : Inv n Ln Z m p (k + 1) (c + 1) (upd2 R 1 t (R 1 t ++ [(p : Int)])) := by
  have hsub : ∀ q, ∀ y ∈ R 1 q, y ∈ upd2 R 1 t (R 1 t ++ [(p : Int)]) 1 q := fun q y hy => by
    by_cases e : q = t
    · subst e; rw [upd2_same]; exact List.mem_append_left _ hy
    · rw [upd2_other (fun hh => e hh.2)]; exact hy
  refine ⟨fun q hq => by rw [upd2_g (by decide)]; exact h.more q hq, fun q hq y hy => ?_, fun q s hq hs e => hsub s _ (h.bf q s hq hs e), fun i s hi hs e => ?_, fun q hq y hy => h.us q hq y (by rwa [upd2_g (by decide)] at hy), fun s => ?_⟩
  · by_cases e : q = t
    · subst e
      rw [upd2_same] at hy
      rcases List.mem_append.1 hy with hy | hy
      · exact h.bs q hq y hy
      · obtain rfl := List.mem_singleton.1 hy
        exact ⟨p, hp, rfl, k, hk, hz⟩
    · rw [upd2_other (fun hh => e hh.2)] at hy; exact h.bs q hq y hy
  · by_cases ei : i = k
    · subst ei
      have est : s = t := by have := e.symm.trans hz; omega
      subst est
      rw [upd2_same]; exact List.mem_append_right _ (List.mem_singleton.2 rfl)
    · exact hsub s _ (h.bp i s (by omega) hs e)
  · rw [upd2_g (a := 2) (by decide)]
    refine ⟨?_, Nat.le_succ_of_le (h.len s).2⟩
    by_cases e : s = t
    · subst e; rw [upd2_same, List.length_append]; have := (h.len s).1; simp; omega
    · rw [upd2_other (fun hh => e hh.2)]; exact Nat.le_succ_of_le (h.len s).1
theorem Inv.up {y : Int} (h : Inv n Ln Z m p k c R) (hy : (p : Int) < y) (hw : wfI y) : Inv n Ln Z m p k (c + 1) (upd2 R 2 p (R 2 p ++ [y])) := by
  refine ⟨fun q hq => by rw [upd2_g (by decide)]; exact h.more q hq, fun t ht z hz => h.bs t ht z (by rwa [upd2_g (by decide)] at hz), fun q t hq ht e => by rw [upd2_g (by decide)]; exact h.bf q t hq ht e, fun i t hi ht e => by rw [upd2_g (by decide)]; exact h.bp i t hi ht e, fun q hq z hz => ?_, fun s => ?_⟩
  · by_cases e : q = p
    · subst e
      rw [upd2_same] at hz
      rcases List.mem_append.1 hz with hz | hz
      · exact h.us q hq z hz
      · obtain rfl := List.mem_singleton.1 hz; exact ⟨hy, hw⟩
    · rw [upd2_other (fun hh => e hh.2)] at hz; exact h.us q hq z hz
  · rw [upd2_g (a := 1) (by decide)]
    refine ⟨Nat.le_succ_of_le (h.len s).1, ?_⟩
    by_cases e : s = p
    · subst e; rw [upd2_same, List.length_append]; have := (h.len s).2; simp; omega
    · rw [upd2_other (fun hh => e hh.2)]; exact Nat.le_succ_of_le (h.len s).2
theorem Inv.row (h : Inv n Ln Z (p + 1) p (Ln p) c R) : Inv n Ln Z (p + 1) (p + 1) 0 c R :=
  ⟨h.more, h.bs, fun q t hq ht e => by
    by_cases eq : q = p
    · subst eq
      obtain ⟨i, hi, hz⟩ := e
      exact h.bp i t hi ht hz
    · exact h.bf q t (by omega) ht e, fun i _ hi => absurd hi (Nat.not_lt_zero i), h.us, h.len⟩
theorem Inv.round_back (h : Inv n Ln Z n n 0 c R) : Round n (lenR (R 1)) (atR (R 1)) ↔ Round n Ln Z := by
  constructor
  · refine Round.turned fun t q ht hq e => ?_
    obtain ⟨q', _, e2, hq'⟩ := h.bs t ht _ (edge_list.1 e)
    have : q = q' := by omega
    subst this; exact hq'
  · exact Round.turned fun q t hq ht e => edge_list.2 (h.bf q t hq ht e)
theorem Inv.round_up (h : Inv n Ln Z n n 0 c R) : ¬ Round n (lenR (R 2)) (atR (R 2)) := Round.up fun u v hu _ e => by
  have := (h.us u hu _ (edge_list.1 e)).1
  omega
theorem Inv.round_more (h : Inv n Ln Z n n 0 c R) {k0 : Nat} {y : Int} (hr : Round n Ln Z) : Round n (lenR (upd2 R 0 k0 (R 0 k0 ++ [y]) 0)) (atR (upd2 R 0 k0 (R 0 k0 ++ [y]) 0)) :=
  Round.mono (fun u v hu _ e => edge_list.2 (by
    have hm : (v : Int) ∈ R 0 u := by
      rw [h.more u hu, mem_rowK]; exact e
    by_cases eu : u = k0
    · subst eu; rw [upd2_same]; exact List.mem_append_left _ hm
    · rw [upd2_other (fun hh => eu hh.2)]; exact hm)) hr
theorem Inv.wf1 (h : Inv n Ln Z m p k c R) (hn : n ≤ 1000) : ∀ q, q < n → ∀ y ∈ R 1 q, wfI y := fun q hq y hy => by
  obtain ⟨r, hr, rfl, _⟩ := h.bs q hq y hy
  exact wfI_nat (by omega)
theorem Inv.wf0 (h : Inv n Ln Z n n 0 c R) (hz : ∀ q i, q < n → i < Ln q → wfI (Z q i)) {k0 : Nat} {y : Int} (hy : wfI y) : ∀ q, q < n → ∀ z ∈ upd2 R 0 k0 (R 0 k0 ++ [y]) 0 q, wfI z := fun q hq z hzm => by
  have hall : ∀ z ∈ R 0 q, wfI z := fun z hz' => by
    rw [h.more q hq, mem_rowK] at hz'
    obtain ⟨i, hi, rfl⟩ := hz'
    exact hz q i hq hi
  by_cases eu : q = k0
  · subst eu
    rw [upd2_same] at hzm
    rcases List.mem_append.1 hzm with h1 | h1
    · exact hall z h1
    · obtain rfl := List.mem_singleton.1 h1; exact hy
  · rw [upd2_other (fun hh => eu hh.2)] at hzm; exact hall z hzm
end
/-- How many places and edges there are. -/
def sumK (Ln : Nat → Nat) : Nat → Nat
  | 0 => 0
  | k + 1 => sumK Ln k + (1 + Ln k)
theorem sumK_le {Ln : Nat → Nat} {B : Nat} : ∀ {k : Nat}, (∀ i, i < k → Ln i ≤ B) → sumK Ln k ≤ k * (1 + B)
  | 0, _ => by simp [sumK]
  | k + 1, h => by
    have := sumK_le (k := k) fun i hi => h i (by omega)
    have := h k (by omega)
    rw [sumK, Nat.add_mul, Nat.one_mul]; omega
theorem le_sumK {Ln : Nat → Nat} {i : Nat} : ∀ {k : Nat}, i < k → Ln i ≤ sumK Ln k
  | k + 1, h => by
    rw [sumK]
    by_cases e : i = k
    · subst e; omega
    · have := le_sumK (Ln := Ln) (i := i) (k := k) (by omega); omega
end Go.Proofs.Ytiimhndiifojnaa.Or
