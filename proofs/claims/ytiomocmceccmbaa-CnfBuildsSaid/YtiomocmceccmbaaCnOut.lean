/- A row of rows of the call's own that grows by one. -/
import Derived.Test.YtiomocmceccmbaaCnMeans
import Derived.Test.YtiomocmceccmbaaCnMost2
import Derived.Test.YtiomocmceccmbaaCnAll
import Derived.Deep.AppendLies
namespace Go.Proofs.Ytiomocmceccmbaa.Cn
open Go.RowKit

/-- The rows lie in newer memory, or in blocks of K. -/
def Src (K : Nat → Prop) (N : Nat) (u : Value) (z : List Int) : Prop := z ≠ [] → ∀ b, u.ownBlock = some b → N ≤ b ∨ K b
structure Out (K : Nat → Prop) (w0 wr : World) (v : Value) (us : List Value) (ls : List (List Int)) : Prop where
  own : OwnG wr w0.heap.size v us ls
  bel : Below w0.heap.size w0 wr
  src : ∀ (j : Nat) (u : Value) (z : List Int), us[j]? = some u → ls[j]? = some z → Src K w0.heap.size u z

theorem Out.below {K : Nat → Prop} {w0 wr w' : World} {v : Value} {us : List Value} {ls : List (List Int)} (h : Out K w0 wr v us ls) (hb : Below wr.heap.size wr w') : Out K w0 w' v us ls := ⟨h.own.below hb, h.bel.trans (hb.mono h.bel.size), h.src⟩
theorem Out.nil (K : Nat → Prop) (w : World) : Out K w w (.slice none 0 0) [] [] := ⟨⟨World.ownsRow_nil _ _ _ _, ⟨rfl, fun j u z hu => by simp at hu⟩⟩, Below.refl _ _, fun j u z hu => by simp at hu⟩
theorem Out.len {K : Nat → Prop} {w0 wr : World} {A : Option Addr} {n c : Nat} {us : List Value} {ls : List (List Int)} (h : Out K w0 wr (.slice A n c) us ls) : n = us.length := by
  rcases own_len h.own.own with ⟨e, h0⟩ | ⟨g, cap, e⟩
  · injection e with _ e _; omega
  · injection e with _ e _
theorem Out.lt {K : Nat → Prop} {w0 wr : World} {v : Value} {us : List Value} {ls : List (List Int)} (h : Out K w0 wr v us ls) : ∀ b, v.ownBlock = some b → w0.heap.size ≤ b ∧ b < wr.heap.size := fun b hb => h.own.own.lt b hb

theorem src_snoc {K : Nat → Prop} {N : Nat} {us : List Value} {ls : List (List Int)} {u : Value} {z : List Int} (hl : ls.length = us.length) (h : ∀ (j : Nat) (u : Value) (z : List Int), us[j]? = some u → ls[j]? = some z → Src K N u z) (hs : Src K N u z) :
    ∀ (j : Nat) (u' : Value) (z' : List Int), (us ++ [u])[j]? = some u' → (ls ++ [z])[j]? = some z' → Src K N u' z' := by
  intro j u' z' hu hz
  by_cases hj : j < us.length
  · rw [List.getElem?_append_left hj] at hu
    rw [List.getElem?_append_left (by omega)] at hz
    exact h j u' z' hu hz
  · have hj' : j = us.length := by have := (List.getElem?_eq_some_iff.1 hu).1; simp at this; omega
    subst hj'
    rw [List.getElem?_append_right (Nat.le_refl _)] at hu
    rw [List.getElem?_append_right (by omega)] at hz
    simp at hu
    rw [hl] at hz; simp at hz
    subst hu; subst hz
    exact hs

theorem Out.app {K : Nat → Prop} {w0 W w' : World} {n cp L1 c1 g cap : Nat} {A A1 : Option Addr} {us : List Value} {ls : List (List Int)} {z : List Int} (h : Out K w0 W (.slice A n cp) us ls) (hr : Row W 0 (.slice A1 L1 c1) z)
    (hne : z ≠ [] → ∀ b, (Value.slice A1 L1 c1).ownBlock = some b → ¬ (Value.slice A n cp).ownBlock = some b) (hsrc : Src K w0.heap.size (.slice A1 L1 c1) z) (ho : w'.ownsRow w0.heap.size 22 1 (.slice (some ⟨g, 0, none⟩) (n + 1) cap) (n + 1) (us ++ [.slice A1 L1 c1]))
    (hg : W.grownBy w' (Value.slice A n cp).ownBlock) (hat : (Value.slice A n cp).ownBlock = some g ∨ g = W.heap.size) : Out K w0 w' (.slice (some ⟨g, 0, none⟩) (n + 1) cap) (us ++ [.slice A1 L1 c1]) (ls ++ [z]) := by
  refine ⟨⟨?_, (h.own.rows.snoc hr hne).moved (Touch.of_grown hg (fun _ h => h)) ?_⟩, Touch.belows h.bel (Touch.of_grown (S := fun b => (Value.slice A n cp).ownBlock = some b) hg (fun _ h => h)) (Nat.le_refl _) (fun b hb => (h.lt b hb).1), src_snoc h.own.rows.1 h.src hsrc⟩
  · rw [List.length_append, ← h.len]; exact ho
  · rcases hat with e | e
    · exact .inl (by rw [e]; rfl)
    · exact .inr (by rw [← e]; rfl)

theorem app_one {ops : Array Oper} {rest : List Oper} {o : Oper} {a : Act} {Q : Exit → Act → World → Prop} {K0 : Nat → Prop} {w0 W : World} {n blk cp L1 c1 : Nat} {A A1 : Option Addr} {us : List Value} {ls : List (List Int)} {z : List Int} (s y : Operand)
    (hgd : o.guard = none) (ho : o.op = .call { callee := .builtin .append, args := #[s, y], argTypes := #[29, 29] })
    (hs : a.eval s = .slice A n cp) (h : Out K0 w0 W (.slice A n cp) us ls) (hx : a.eval y = .slice (some ⟨blk, 0, none⟩) 1 1) (hn : W.heap[blk]? = some (.cells #[.slice A1 L1 c1] 22 (0, 0)))
    (hr : Row W 0 (.slice A1 L1 c1) z) (hne : z ≠ [] → ∀ b, (Value.slice A1 L1 c1).ownBlock = some b → ¬ (Value.slice A n cp).ownBlock = some b) (hsrc : Src K0 w0.heap.size (.slice A1 L1 c1) z) (hsz : ls.length ≤ 400000)
    (hK : ∀ A' n' c' us' w', Out K0 w0 w' (.slice A' n' c') us' (ls ++ [z]) → W.grownBy w' (Value.slice A n cp).ownBlock → wpList Try.prog ops Q rest (a.put o.dst (.slice A' n' c')) w') : wpList Try.prog ops Q (o :: rest) a W := by
  have hl := h.len
  have hrl := h.own.rows.1
  exact app_slice (W := W) (base := w0.heap.size) (xs := us) s y hgd ho hs (by have := h.own.own; rwa [← hl] at this) hx hn (by omega) h.bel.size (fun g cap w' h1 h2 h3 _ => hK _ _ _ _ w' (h.app hr hne hsrc h1 h2 h3) h2)

theorem step_app_one {ops : Array Oper} {o : Oper} {a : Act} {K : Act → World → Prop} {Q : Exit → Act → World → Prop} {K0 : Nat → Prop} {E : Prop} {w0 W : World} {n blk cp L1 c1 : Nat} {A A1 : Option Addr} {us : List Value} {ls : List (List Int)} {z : List Int} (s y : Operand)
    (hgd : o.guard = none) (ho : o.op = .call { callee := .builtin .append, args := #[s, y], argTypes := #[29, 29] })
    (hs : a.eval s = .slice A n cp) (h : Out K0 w0 W (.slice A n cp) us ls) (hx : a.eval y = .slice (some ⟨blk, 0, none⟩) 1 1) (hn : W.heap[blk]? = some (.cells #[.slice A1 L1 c1] 22 (0, 0)))
    (hr : Row W 0 (.slice A1 L1 c1) z) (hne : z ≠ [] → ∀ b, (Value.slice A1 L1 c1).ownBlock = some b → ¬ (Value.slice A n cp).ownBlock = some b) (hsrc : Src K0 w0.heap.size (.slice A1 L1 c1) z) (hsz : ls.length ≤ 400000)
    (hK : ∀ A' n' c' us' w', Out K0 w0 w' (.slice A' n' c') us' (ls ++ [z]) → W.grownBy w' (Value.slice A n cp).ownBlock → K (a.put o.dst (.slice A' n' c')) w') : if Region.wanted o (yielded ops a.tmps) = true then Oper.wp Try.prog o a W K Q else E := by
  have hl := h.len
  have hrl := h.own.rows.1
  have hown : W.ownsRow w0.heap.size 22 1 (.slice A n cp) n us := by have := h.own.own; rwa [← hl] at this
  obtain ⟨i0, hi0, hz0, hz1, hz2⟩ := info_parts slice_info
  exact step_append_lies W hgd s y 29 ho w0.heap.size 22 i0 _ 1 24 Try.underlying29 hi0 hz0 hz1 hz2 rfl (by omega) _ n us hs hown ⟨blk, 0, none⟩ 1 1 [.slice A1 L1 c1] hx rfl
    (World.news_of_block (cs := #[.slice A1 L1 c1]) hn) (by simp [Value.oneCell']) (by omega) (by unfold maxLen; omega) (by omega) h.bel.size _ rfl (fun g cap w' h1 h2 h3 _ => hK _ _ _ _ w' (h.app hr hne hsrc h1 h2 h3) h2)

/-- Two allocations: a row of numbers, and a row of that one row. -/
theorem heap_two (w : World) (o : Obj) (X : Value) : ((w.alloc o).alloc (.cells #[X] 22)).heap[w.heap.size + 1]? = some (.cells #[X] 22 (0, 0)) := by
  have h := heap_alloc_new (w.alloc o) (.cells #[X] 22)
  rwa [show (w.alloc o).heap.size = w.heap.size + 1 by simp] at h
theorem bel_new (w : World) (o : Obj) : Below w.heap.size w (w.alloc o) := (Below.refl _ w).alloc (Nat.le_refl _) o
theorem below_two (w : World) (o p : Obj) : Below w.heap.size w ((w.alloc o).alloc p) := ((Below.refl _ _).alloc (Nat.le_refl _) o).alloc (by simp) p
theorem below_oneW (w : World) (o p : Obj) : Below (w.alloc o).heap.size (w.alloc o) ((w.alloc o).alloc p) := (Below.refl _ _).alloc (Nat.le_refl _) p

/-- A row of one row. -/
theorem grid_row1 (w : World) {A : Option Addr} {L c : Nat} {zs : List Int} (h : Row w 0 (.slice A L c) zs) : Grid (w.alloc (.cells #[.slice A L c] 22)) (.slice (some ⟨w.heap.size, 0, none⟩) 1 1) [zs] := by
  have h3 := heap_alloc_new w (.cells #[.slice A L c] 22)
  have r := h.below (bel_new w (.cells #[.slice A L c] 22))
  refine ⟨_, 1, [.slice A L c], rfl, by simp, by simp [maxLen], .inr ⟨w.heap.size, 0, rfl, by simp, fun j u hu => ?_⟩, rfl, fun j u z hu hz => ?_⟩
  · rw [Nat.zero_add]; exact cells_get h3 j (by simpa using hu)
  · match j, hu, hz with
    | 0, hu, hz => simp at hu hz; subst hu; subst hz; exact ⟨r, fun _ _ _ h => h⟩

/-- The rows live on where older memory alone is written, and none of K's. -/
theorem Out.survive {K S : Nat → Prop} {w0 wr w' : World} {v : Value} {us : List Value} {ls : List (List Int)} (h : Out K w0 wr v us ls) (hS : ∀ b, S b → b < w0.heap.size ∧ ¬ K b) (ht : Touch wr w' S) : OwnG w' w0.heap.size v us ls := by
  have hg : OwnG w' w0.heap.size v us ls := ⟨own_touch h.own.own ht (fun g hg hs => by have h1 := (h.lt g hg).1; have h2 := (hS g hs).1; omega), h.own.rows.1, fun j u z hu hz => by
    obtain ⟨h1, h2⟩ := h.own.rows.2 j u z hu hz
    refine ⟨h1.touchs ht (fun hne b hb hs => ?_), h2⟩
    rcases h.src j u z hu hz hne b hb with h3 | h3
    · have := (hS b hs).1; omega
    · exact (hS b hs).2 h3⟩
  exact hg
/-- A row of one row. -/
theorem Out.one (w : World) {A : Option Addr} {L c : Nat} {zs : List Int} (h : Row w 0 (.slice A L c) zs) (K : Nat → Prop) (hK : Src K w.heap.size (.slice A L c) zs) : Out K w (w.alloc (.cells #[.slice A L c] 22)) (.slice (some ⟨w.heap.size, 0, none⟩) 1 1) [.slice A L c] [zs] := by
  have h3 := heap_alloc_new w (.cells #[.slice A L c] 22)
  have r := h.below (bel_new w (.cells #[.slice A L c] 22))
  refine ⟨⟨⟨rfl, .inr ⟨w.heap.size, 1, #[.slice A L c], rfl, Nat.le_refl _, h3, Nat.le_refl _, by simp [maxLen], rfl, rfl⟩⟩, rfl, fun j u z hu hz => ?_⟩, bel_new w _, fun j u z hu hz => ?_⟩
  · match j, hu, hz with
    | 0, hu, hz => simp at hu hz; subst hu; subst hz; exact ⟨r, fun hne b hb hg => by simp [Value.ownBlock] at hg; have := (h.block hne b hb).2; omega⟩
  · match j, hu, hz with
    | 0, hu, hz => simp at hu hz; subst hu; subst hz; exact hK

/-- An operation's clauses, as they are said. -/
def opP (kd x : Int) (zs : List Int) : List (List Int) :=
  if kd = 0 then [zs] else if kd = 1 then prs zs zs.length else if kd = 2 then zs :: prs zs zs.length else if kd = 3 then allP x zs else anyP x zs

end Go.Proofs.Ytiomocmceccmbaa.Cn
