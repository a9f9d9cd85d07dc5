/- HeapAgain: what was taken out, and put in again, comes in the same order. -/
import Derived.Test.YtnapkgnbkkilgaaHpPush
import Derived.Test.YtnapkgnbkkilgaaHpAll
namespace Go.Proofs.Ytnapkgnbkkilgaa.Hp
open Go.RowKit

theorem perm_of_sub : ∀ (l m : List Nat), l.Nodup → (∀ x ∈ l, x ∈ m) → m.length ≤ l.length → l.Perm m
  | [], m, _, _, h => by
    have : m = [] := List.eq_nil_of_length_eq_zero (by simpa using h)
    rw [this]
  | x :: l, m, hn, hs, h => by
    have hx := hs x (by simp)
    rw [List.nodup_cons] at hn
    have e := List.length_erase_of_mem hx
    have hp := perm_of_sub l (m.erase x) hn.2 (fun y hy => (List.mem_erase_of_ne (fun e : y = x => hn.1 (by rw [← e]; exact hy))).2 (hs y (by simp [hy]))) (by simp at h; omega)
    exact (hp.cons x).trans (List.perm_cons_erase hx).symm

/-- A heap stays what it is while other blocks are written. -/
theorem Heap.touch {w w' : World} {base B S P : Nat} {v : Value} {sc row pl : List Nat} {F : Nat → Prop} (h : Heap w base B S P v sc row pl) (ht : Touch w w' F) (h1 : ¬ F B) (h2 : ¬ F S) (h3 : ¬ F P) (h4 : ∀ g, v.ownBlock = some g → ¬ F g) : Heap w' base B S P v sc row pl :=
  ⟨⟨heap_touch h.1.head ht h1, heap_touch h.1.score ht h2, heap_touch h.1.place ht h3, own_touch h.1.own ht h4, h.1.apart, h.1.same, h.1.few, h.1.least⟩, h.2⟩

/-- The heap, and a row of the law's own beside it. -/
structure Bes (w wr : World) (B S P : Nat) (v u : Value) (sc row pl fs : List Nat) : Prop where
  heap : Heap wr w.heap.size B S P v sc row pl
  own : wr.ownsRow w.heap.size 3 1 u fs.length (i64s fs)
  ap : u.ownBlock ≠ some P
  av : ∀ g, u.ownBlock = some g → v.ownBlock ≠ some g
  bel : Below w.heap.size w wr

theorem Bes.slice {w wr : World} {B S P : Nat} {v u : Value} {sc row pl fs : List Nat} (h : Bes w wr B S P v u sc row pl fs) : ∃ A c, u = .slice A fs.length c := by
  rcases own_len h.own with ⟨e, h0⟩ | ⟨g, cap, e⟩
  · exact ⟨none, 0, by rw [e, h0]⟩
  · exact ⟨_, _, e⟩

theorem Bes.below {w wr w' : World} {B S P : Nat} {v u : Value} {sc row pl fs : List Nat} (h : Bes w wr B S P v u sc row pl fs) (hb : Below wr.heap.size wr w') : Bes w w' B S P v u sc row pl fs :=
  ⟨h.heap.below hb, own_touch h.own (Touch.of_below (S := fun _ => False) hb) (fun _ _ h => h), h.ap, h.av, h.bel.trans (hb.mono h.bel.size)⟩

/-- Behind a call of the heap. -/
theorem Bes.call {w wr w' : World} {B S P : Nat} {v v' u : Value} {sc row pl row' pl' fs : List Nat} (h : Bes w wr B S P v u sc row pl fs) (hh : Heap w' w.heap.size B S P v' sc row' pl')
    (hv : v'.ownBlock = v.ownBlock ∨ ∃ g, v'.ownBlock = some g ∧ wr.heap.size ≤ g) (ht : Touch wr w' (fun i => i = B ∨ i = P ∨ v.ownBlock = some i)) : Bes w w' B S P v' u sc row' pl' fs := by
  refine ⟨hh, own_touch h.own ht (fun g e hg => ?_), h.ap, fun g e => ?_, h.heap.still ht (fun i h => by rcases h with h | h | h; exact .inl h; exact .inr (.inr (.inl h)); exact .inr (.inr (.inr h))) h.bel (Nat.le_refl _)⟩
  · rcases hg with e2 | e2 | e2
    · subst e2; exact own_apart h.own h.heap.1.head (by decide) e
    · subst e2; exact h.ap e
    · exact h.av g e e2
  · rcases hv with e2 | ⟨g2, e2, h2⟩
    · rw [e2]; exact h.av g e
    · rw [e2]; intro e3; cases e3
      have := (h.own.lt g e).2
      omega

/-- Behind an append to the law's row. -/
theorem Bes.grow {w wr w3 : World} {X : Obj} {B S P g cap cp a : Nat} {A : Option Addr} {v : Value} {sc row pl fs : List Nat} (h : Bes w wr B S P v (.slice A fs.length cp) sc row pl fs)
    (ho : w3.ownsRow w.heap.size 3 1 (.slice (some ⟨g, 0, none⟩) (fs.length + 1) cap) (fs.length + 1) (i64s fs ++ [.int .i64 (a : Int)])) (hg : (wr.alloc X).grownBy w3 (Value.slice A fs.length cp).ownBlock)
    (hat : (Value.slice A fs.length cp).ownBlock = some g ∨ g = (wr.alloc X).heap.size) : Bes w w3 B S P v (.slice (some ⟨g, 0, none⟩) (fs.length + 1) cap) sc row pl (fs ++ [a]) := by
  have t0 : Touch wr wr (fun i => (Value.slice A fs.length cp).ownBlock = some i) := Touch.refl _ _
  have t1 := (t0.alloc X).trans (Touch.of_grown (S := fun i => (Value.slice A fs.length cp).ownBlock = some i) hg (fun i e => e)) (fun _ _ h => h)
  refine ⟨h.heap.touch t1 (own_apart h.own h.heap.1.head (by decide)) (own_apart h.own h.heap.1.score (by decide)) h.ap (fun b hb e => h.av b e hb), ?_, ?_, ?_, Touch.belows h.bel t1 (Nat.le_refl _) (fun i e => (h.own.lt i e).1)⟩
  · have e : i64s (fs ++ [a]) = i64s fs ++ [.int .i64 (a : Int)] := by simp [i64s]
    rw [List.length_append, List.length_singleton, e]; exact ho
  · simp only [Value.ownBlock, ne_eq, Option.some.injEq]
    rintro rfl
    rcases hat with e | e
    · exact h.ap e
    · have := lt_of_heap h.heap.1.place; simp at e; omega
  · intro g' e
    simp only [Value.ownBlock, Option.some.injEq] at e
    subst e
    rcases hat with e | e
    · exact h.av g e
    · intro e2
      have := (h.heap.1.own.lt g e2).2
      simp at e; omega

theorem Bes.cell {w wr : World} {B S P g n c p : Nat} {v : Value} {sc row pl fs : List Nat} (h : Bes w wr B S P v (.slice (some ⟨g, 0, none⟩) n c) sc row pl fs) (hp : p < fs.length) : wr.cell? ⟨g, p, none⟩ = some (.int .i64 (at' fs p : Nat)) := by
  have := h.own.cells (g := g) rfl p _ (i64s_get (at_get hp))
  unfold Addr.add at this
  split at this <;> simp_all

def Got (w : World) (n B S P : Nat) (u t : Value) (wr : World) : Prop :=
  ∃ (k : Nat) (v : Value) (sc row pl fs : List Nat), t = .int .i64 (k : Int) ∧ k ≤ n ∧ Bes w wr B S P v u sc row pl fs ∧ sc.length = n + 1 ∧ fs.length = k ∧ row.length = n - k ∧
    (fs ++ row).Perm (List.range' 1 n) ∧ fs.Pairwise (Lt sc) ∧ (∀ y ∈ fs, ∀ x ∈ row, Lt sc y x)

def Put (w : World) (n turn B S P : Nat) (u : Value) (sc fs : List Nat) (t : Value) (wr : World) : Prop :=
  ∃ (k : Nat) (v : Value) (row pl : List Nat), t = .int .i64 (k : Int) ∧ k ≤ n ∧ Bes w wr B S P v u sc row pl fs ∧ row.length = k ∧ (∀ x ∈ row, ∃ i, i < k ∧ x = at' fs ((i + turn) % n))

def Back (w : World) (n B S P : Nat) (u : Value) (sc fs : List Nat) (t : Value) (wr : World) : Prop :=
  ∃ (k : Nat) (v : Value) (row pl : List Nat), t = .int .i64 (k : Int) ∧ k ≤ n ∧ Bes w wr B S P v u sc row pl fs ∧ row.Perm (fs.drop k)

theorem bounds_u8 {n : Int} (h : (Lit.int .u8 n).wf = true) : 0 ≤ n ∧ n < 256 := by
  simp [Lit.wf, IntKind.min, IntKind.max, IntKind.bits, IntKind.signed] at h; omega

theorem mod_ne {i k t n : Nat} (h1 : i < k) (h2 : k < n) : (i + t) % n ≠ (k + t) % n := by
  intro e
  have h3 := Nat.sub_mod_eq_zero_of_mod_eq e.symm
  have h4 : k + t - (i + t) = k - i := by omega
  rw [h4, Nat.mod_eq_of_lt (by omega)] at h3
  omega

theorem got_step {sc row row2 fs : List Nat} {a : Nat} (hn : row.Nodup) (hp : row.Perm (a :: row2)) (hm : ∀ x ∈ row, ¬ Lt sc x a) (ha : a ∈ row) (h1 : fs.Pairwise (Lt sc)) (h2 : ∀ y ∈ fs, ∀ x ∈ row, Lt sc y x) :
    (fs ++ [a]).Pairwise (Lt sc) ∧ (∀ y ∈ fs ++ [a], ∀ x ∈ row2, Lt sc y x) ∧ (fs ++ row).Perm (fs ++ [a] ++ row2) ∧ row.length = row2.length + 1 := by
  obtain ⟨q1, q2⟩ := pop_step hn hp hm
  refine ⟨?_, ?_, ?_, q2⟩
  · rw [List.pairwise_append]
    exact ⟨h1, by simp, fun y hy x hx => by rw [List.mem_singleton.1 hx]; exact h2 y hy a ha⟩
  · intro y hy x hx
    rcases List.mem_append.1 hy with hy | hy
    · exact h2 y hy x (q1 x hx).1
    · rw [List.mem_singleton.1 hy]; exact (q1 x hx).2
  · rw [List.append_assoc]
    exact hp.append_left fs

theorem back_step {sc fs row row2 : List Nat} {k a : Nat} (hk : k < fs.length) (hs : fs.Pairwise (Lt sc)) (hr : row.Perm (fs.drop k)) (ha : a ∈ row) (hm : ∀ x ∈ row, ¬ Lt sc x a) (hp : row.Perm (a :: row2)) : a = at' fs k ∧ row2.Perm (fs.drop (k + 1)) := by
  have e : fs.drop k = at' fs k :: fs.drop (k + 1) := by
    rw [List.drop_eq_getElem_cons hk]
    have := at_get hk
    rw [List.getElem?_eq_getElem hk] at this
    rw [Option.some.inj this]
  rw [e] at hr
  have hd : (at' fs k :: fs.drop (k + 1)).Pairwise (Lt sc) := by rw [← e]; exact hs.drop
  rw [List.pairwise_cons] at hd
  have ea : a = at' fs k := by
    rcases List.mem_cons.1 (hr.mem_iff.1 ha) with h | h
    · exact h
    · exact absurd (hd.1 a h) (hm _ (hr.mem_iff.2 (by simp)))
  refine ⟨ea, ?_⟩
  subst ea
  exact (List.perm_cons _).1 (hp.symm.trans hr)

end Go.Proofs.Ytnapkgnbkkilgaa.Hp
