/- The law's state: the builder, and the clauses that are wanted. -/
import Derived.Test.YtiomocmceccmbaaCnSaid3
import Derived.Test.YtiomocmceccmbaaCnBuildsMath
import Derived.Test.YtiomocmceccmbaaCnRef
namespace Go.Proofs.Ytiomocmceccmbaa.Cn
open Go.RowKit

structure St (w wr : World) (v : Value) (vs : List Value) (ls : List (List Int)) (bad : Bool) (W : Value) (us : List Value) (lw : List (List Int)) : Prop where
  bld : Bld wr w.heap.size w.heap.size v vs ls bad false
  want : Out (fun _ => False) w wr W us lw
  apart : ∀ g, W.ownBlock = some g → ¬ v.ownBlock = some g
  rowsW : RowsOf wr w.heap.size (fun b => W.ownBlock = some b) vs ls
  rowsV : RowsOf wr 0 (fun b => b = w.heap.size ∨ v.ownBlock = some b) us lw

theorem St.notB {w wr : World} {v W : Value} {vs us : List Value} {ls lw : List (List Int)} {bad : Bool} (h : St w wr v vs ls bad W us lw) : ¬ W.ownBlock = some w.heap.size := own_apart h.want.own.own h.bld.head (by decide)

theorem St.below {w wr w' : World} {v W : Value} {vs us : List Value} {ls lw : List (List Int)} {bad : Bool} (h : St w wr v vs ls bad W us lw) (hb : Below wr.heap.size wr w') : St w w' v vs ls bad W us lw :=
  ⟨h.bld.below hb, h.want.below hb, h.apart, h.rowsW.below hb, h.rowsV.below hb⟩

theorem St.step {w wr w' : World} {v v' W : Value} {vs vs' us : List Value} {ls ls' lw : List (List Int)} {bad bad' : Bool} (h : St w wr v vs ls bad W us lw) (k : Step wr v vs ls w' w.heap.size w.heap.size v' vs' ls' bad') : St w w' v' vs' ls' bad' W us lw := by
  refine ⟨k.bld, ⟨⟨own_touch h.want.own.own k.touch (fun g hg hs => ?_), h.rowsV.keep h.want.own.rows k.touch (fun _ h => h)⟩, Touch.belows h.want.bel k.touch (Nat.le_refl _) (fun b hb => ?_), h.want.src⟩, fun g hg hv => ?_, k.frame _ (fun b hb => (h.want.lt b hb).2) h.rowsW, h.rowsV.keep (h.rowsV.weak (fun b hb hF => ?_)) k.touch (fun _ h => h)⟩
  · rcases hs with rfl | hs
    · exact h.notB hg
    · exact h.apart g hg hs
  · rcases hb with rfl | hb
    · exact Nat.le_refl _
    · exact (h.bld.own.lt b hb).1
  · rcases k.own with e | ⟨g', e, hg'⟩
    · exact h.apart g hg (e ▸ hv)
    · rw [e] at hv; injection hv with hv; subst hv
      have := (h.want.lt _ hg).2; omega
  · rcases hF with hF | hF
    · exact .inl hF
    · rcases k.own with e | ⟨g', e, hg'⟩
      · exact .inr (e ▸ hF)
      · rw [e] at hF; injection hF with hF; omega

theorem St.app {w wr w' : World} {v W W' u : Value} {vs us : List Value} {ls lw : List (List Int)} {bad : Bool} {z : List Int} (h : St w wr v vs ls bad W us lw) (hr : Row wr 0 u z) (hW : z ≠ [] → ∀ b, u.ownBlock = some b → ¬ W.ownBlock = some b) (hV : z ≠ [] → ∀ b, u.ownBlock = some b → ¬ (b = w.heap.size ∨ v.ownBlock = some b))
    (ho : Out (fun _ => False) w w' W' (us ++ [u]) (lw ++ [z])) (hg : wr.grownBy w' W.ownBlock) (hat : W'.ownBlock = W.ownBlock ∨ W'.ownBlock = some wr.heap.size) : St w w' v vs ls bad W' (us ++ [u]) (lw ++ [z]) := by
  have ht := Touch.of_grown (S := fun b => W.ownBlock = some b) hg (fun _ h => h)
  refine ⟨h.bld.other ht h.notB (fun g hg' hs => h.apart g hs hg') h.rowsW, ho, fun g hg' hv => ?_, h.rowsW.moved ht hat, (h.want.own.rows.snoc hr hW).keep (h.rowsV.snoc hr hV) ht (fun _ h => h)⟩
  rcases hat with e | e
  · exact h.apart g (e ▸ hg') hv
  · rw [e] at hg'; injection hg' with hg'; subst hg'
    have := (h.bld.own.lt _ hv).2; omega

theorem app_oneH {ops : Array Oper} {rest : List Oper} {o : Oper} {a : Act} {Q : Exit → Act → World → Prop} {K0 : Nat → Prop} {w0 W : World} {n blk cp L1 c1 : Nat} {A A1 : Option Addr} {us : List Value} {ls : List (List Int)} {z : List Int} (s y : Operand)
    (hgd : o.guard = none) (ho : o.op = .call { callee := .builtin .append, args := #[s, y], argTypes := #[29, 29] })
    (hs : a.eval s = .slice A n cp) (h : Out K0 w0 W (.slice A n cp) us ls) (hx : a.eval y = .slice (some ⟨blk, 0, none⟩) 1 1) (hn : W.heap[blk]? = some (.cells #[.slice A1 L1 c1] 22 (0, 0)))
    (hr : Row W 0 (.slice A1 L1 c1) z) (hne : z ≠ [] → ∀ b, (Value.slice A1 L1 c1).ownBlock = some b → ¬ (Value.slice A n cp).ownBlock = some b) (hsrc : Src K0 w0.heap.size (.slice A1 L1 c1) z) (hsz : ls.length ≤ 400000)
    (hK : ∀ A' n' c' w', Out K0 w0 w' (.slice A' n' c') (us ++ [.slice A1 L1 c1]) (ls ++ [z]) → W.grownBy w' (Value.slice A n cp).ownBlock → ((Value.slice A' n' c').ownBlock = (Value.slice A n cp).ownBlock ∨ (Value.slice A' n' c').ownBlock = some W.heap.size) → wpList Try.prog ops Q rest (a.put o.dst (.slice A' n' c')) w') : wpList Try.prog ops Q (o :: rest) a W := by
  have hl := h.len
  have hrl := h.own.rows.1
  exact app_slice (W := W) (base := w0.heap.size) (xs := us) s y hgd ho hs (by have := h.own.own; rwa [← hl] at this) hx hn (by omega) h.bel.size (fun g cap w' h1 h2 h3 _ => hK _ _ _ w' (h.app hr hne hsrc h1 h2 h3) h2 (by
    rcases h3 with e | e
    · exact .inl (by rw [e]; rfl)
    · exact .inr (by rw [← e]; rfl)))

theorem addS_det {c : List Int} {ls m m' : List (List Int)} {bad b b' : Bool} (h : AddS c ls bad m b) (k : AddS c ls bad m' b') : m = m' ∧ b = b' := by
  rcases h with ⟨h1, rfl, rfl⟩ | ⟨f, h1, rfl, rfl⟩ <;> rcases k with ⟨k1, rfl, rfl⟩ | ⟨g, k1, rfl, rfl⟩
  · exact ⟨rfl, rfl⟩
  · exact absurd h1 k1.not
  · exact absurd k1 h1.not
  · rw [good_unique h1 k1 (fun _ => Iff.rfl)]; exact ⟨rfl, rfl⟩
theorem adds_det : ∀ {P : List (List Int)} {ls m m' : List (List Int)} {bad b b' : Bool}, Adds P ls bad m b → Adds P ls bad m' b' → m = m' ∧ b = b'
  | [], _, _, _, _, _, _, h, k => by obtain ⟨rfl, rfl⟩ := h; obtain ⟨rfl, rfl⟩ := k; exact ⟨rfl, rfl⟩
  | _ :: _, _, _, _, _, _, _, ⟨m1, b1, h1, h2⟩, ⟨m2, b2, k1, k2⟩ => by
    obtain ⟨rfl, rfl⟩ := addS_det h1 k1
    exact adds_det h2 k2

theorem prAt_len (zs : List Int) (i k : Nat) : (prAt zs i k).length = k := by unfold prAt; simp
theorem prs_len (zs : List Int) : ∀ m, (prs zs m).length ≤ m * zs.length
  | 0 => by simp [prs]
  | m + 1 => by
    have := prs_len zs m
    rw [prs_succ, List.length_append, prAt_len, Nat.add_mul]; omega
theorem op_count (kd x : Int) (zs : List Int) (hz : zs.length ≤ 12) : (opP kd x zs).length ≤ 157 := by
  have h := prs_len zs zs.length
  have h2 : zs.length * zs.length ≤ 12 * 12 := Nat.mul_le_mul hz hz
  unfold opP allP anyP
  split
  · simp
  split
  · omega
  split
  · simp; omega
  split
  · simp; omega
  · simp; omega
theorem prs_mem {zs : List Int} {m : Nat} {c : List Int} (h : c ∈ prs zs m) : ∃ a b, c = [ng a, ng b] := by
  unfold prs prAt at h
  obtain ⟨i, _, h⟩ := List.mem_flatMap.1 h
  obtain ⟨j, _, rfl⟩ := List.mem_map.1 h
  exact ⟨_, _, rfl⟩
theorem op_len {kd x : Int} {zs : List Int} (hz : zs.length ≤ 12) {c : List Int} (h : c ∈ opP kd x zs) : c.length ≤ 13 := by
  unfold opP allP anyP at h
  split at h
  · simp at h; subst h; omega
  split at h
  · obtain ⟨a, b, rfl⟩ := prs_mem h; simp
  split at h
  · rcases List.mem_cons.1 h with rfl | h
    · omega
    · obtain ⟨a, b, rfl⟩ := prs_mem h; simp
  split at h
  · rcases List.mem_append.1 h with h | h
    · obtain ⟨y, _, rfl⟩ := List.mem_map.1 h; simp
    · simp at h; subst h; simp; omega
  · rcases List.mem_cons.1 h with rfl | h
    · simp; omega
    · obtain ⟨y, _, rfl⟩ := List.mem_map.1 h; simp

theorem op_in {kd x : Int} {zs : List Int} (hi : InI zs) (hx : -9223372036854775808 ≤ x ∧ x ≤ 9223372036854775807) : ∀ c ∈ opP kd x zs, InI c := by
  intro c h y hy
  unfold opP allP anyP at h
  split at h
  · simp at h; subst h; exact hi y hy
  split at h
  · obtain ⟨a, b, rfl⟩ := prs_mem h; simp at hy; rcases hy with rfl | rfl <;> exact ng_in _
  split at h
  · rcases List.mem_cons.1 h with rfl | h
    · exact hi y hy
    · obtain ⟨a, b, rfl⟩ := prs_mem h; simp at hy; rcases hy with rfl | rfl <;> exact ng_in _
  split at h
  · rcases List.mem_append.1 h with h | h
    · obtain ⟨z, hz, rfl⟩ := List.mem_map.1 h; simp at hy
      rcases hy with rfl | rfl
      · exact ng_in _
      · exact hi _ hz
    · simp at h; subst h
      rcases List.mem_cons.1 hy with rfl | hy
      · exact hx
      · obtain ⟨z, _, rfl⟩ := List.mem_map.1 hy; exact ng_in _
  · rcases List.mem_cons.1 h with rfl | h
    · rcases List.mem_cons.1 hy with rfl | hy
      · exact ng_in _
      · exact hi y hy
    · obtain ⟨z, hz, rfl⟩ := List.mem_map.1 h; simp at hy
      rcases hy with rfl | rfl
      · exact ng_in _
      · exact hx
theorem holds_next {kd x : Int} {zs : List Int} {ls ls2 : List (List Int)} {bad bad2 hb : Bool} {bs : List Bool} (hA : Adds (opP kd x zs) ls bad ls2 bad2) (hi : InI zs) (hx : -9223372036854775808 ≤ x ∧ x ≤ 9223372036854775807) (hh : bad = false → holdsB ls bs = hb) : bad2 = false → holdsB ls2 bs = (hb && meansB kd x zs bs) := by
  intro h2
  obtain ⟨e1, e2⟩ := hA.holds (op_in hi hx) bs
  rw [h2] at e1
  have e3 : bad = false ∧ (opP kd x zs).all lits = true := by
    cases bad
    · refine ⟨rfl, ?_⟩
      cases h : (opP kd x zs).all lits
      · rw [h] at e1; cases e1
      · rfl
    · cases e1
  rw [e2 e3.2, hh e3.1, op_means hi hx e3.2]

theorem len_sub : ∀ {f l : List Int}, f.Nodup → (∀ y ∈ f, y ∈ l) → f.length ≤ l.length
  | [], _, _, _ => Nat.zero_le _
  | x :: r, l, hn, hs => by
    rw [List.nodup_cons] at hn
    have hx := hs x (by simp)
    have := len_sub (l := l.erase x) hn.2 (fun y hy => (List.mem_erase_of_ne (by rintro rfl; exact hn.1 hy)).2 (hs y (by simp [hy])))
    rw [List.length_erase_of_mem hx] at this
    have := List.length_pos_of_mem hx
    simp; omega
theorem good_len {l f : List Int} (h : Good l f) : f.length ≤ l.length :=
  len_sub (h.up.imp fun hab e => by subst e; omega) (fun y hy => (h.same y).1 hy)
theorem adds_len : ∀ {P : List (List Int)} {ls ls' : List (List Int)} {bad bad' : Bool} {m : Nat}, Adds P ls bad ls' bad' → (∀ c ∈ P, c.length ≤ m) → (∀ z ∈ ls, z.length ≤ m) → ∀ z ∈ ls', z.length ≤ m
  | [], _, _, _, _, _, h, _, hl => by obtain ⟨rfl, rfl⟩ := h; exact hl
  | c :: P, ls, _, _, _, m, ⟨m1, b, h1, h2⟩, hP, hl => adds_len h2 (fun d hd => hP d (by simp [hd])) (by
    rcases h1 with ⟨_, rfl, _⟩ | ⟨f, hg, rfl, _⟩
    · exact hl
    · intro z hz
      rcases List.mem_append.1 hz with hz | hz
      · exact hl z hz
      · simp at hz; subst hz; exact Nat.le_trans (good_len hg) (hP c (by simp)))

end Go.Proofs.Ytiomocmceccmbaa.Cn
