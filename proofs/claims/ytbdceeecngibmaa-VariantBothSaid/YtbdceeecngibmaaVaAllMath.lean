/- Plain mathematics: all settings of variants; rows of rows of the call's own. -/
import Derived.Test.YtbdceeecngibmaaVaConcat
namespace Go.Proofs.Ytbdceeecngibmaa.Va
open Go.RowKit

def stepR (rows : List (List Set1)) (v : Var) : List (List Set1) := v.2.flatMap fun x => rows.map (· ++ [(v.1, x)])
def foldR (l : List Var) : List (List Set1) := l.foldl stepR [[]]
def allB (l : List Var) : List (List Set1) := if mayB l then foldR l else []

theorem foldR_snoc {l : List Var} {k : Nat} (hk : k < l.length) : foldR (l.take (k + 1)) = stepR (foldR (l.take k)) (nthV l k) := by
  unfold foldR
  rw [List.take_succ_eq_append_getElem hk, List.foldl_append, nthV_lt hk]; rfl
theorem flatMap_snoc {l : List ByteArray} {k : Nat} (hk : k < l.length) (f : ByteArray → List (List Set1)) : (l.take (k + 1)).flatMap f = (l.take k).flatMap f ++ f (nthS l k) := by
  rw [List.take_succ_eq_append_getElem hk, List.flatMap_append, nthS_lt hk]; simp only [List.flatMap_cons, List.flatMap_nil, List.append_nil]
theorem map_snoc {l : List (List Set1)} {k : Nat} (hk : k < l.length) (f : List Set1 → List Set1) : (l.take (k + 1)).map f = (l.take k).map f ++ [f (nthG l k)] := by
  rw [List.take_succ_eq_append_getElem hk, List.map_append, nthG_lt hk]; rfl

theorem flatMap_le (f : ByteArray → List (List Set1)) (n : Nat) (hf : ∀ x, (f x).length = n) : ∀ (l : List ByteArray) , (l.flatMap f).length = l.length * n := by
  intro l
  induction l with
  | nil => simp
  | cons a r ih => rw [List.flatMap_cons, List.length_append, ih, hf, List.length_cons, Nat.succ_mul]; omega
theorem nthG_mem {l : List (List Set1)} {i : Nat} (h : i < l.length) : nthG l i ∈ l := by rw [nthG_lt h]; exact List.getElem_mem h

theorem mayB_len {l : List Var} (h : mayB l = true) : l.length ≤ 4 := by
  unfold mayB at h; simp at h; exact h.1
theorem mayB_vals {l : List Var} (h : mayB l = true) {k : Nat} (hk : k < l.length) : 0 < (nthV l k).2.length ∧ (nthV l k).2.length ≤ 4 := by
  unfold mayB at h
  rw [Bool.and_eq_true, List.all_eq_true] at h
  have := h.2 k (by simpa using hk)
  rw [Bool.and_eq_true] at this
  have h1 := this.1
  unfold mayOneB at h1
  simp at h1
  obtain ⟨⟨⟨_, h2⟩, h3⟩, _⟩ := h1
  refine ⟨?_, h3⟩
  cases hh : (nthV l k).2 with
  | nil => exact absurd hh h2
  | cons _ _ => simp

/-- How long each row is, and how many there are. -/
theorem foldR_rows : ∀ {l : List Var}, mayB l = true → ∀ k, k ≤ l.length → (∀ z ∈ foldR (l.take k), z.length = k) ∧ (foldR (l.take k)).length ≤ 4 ^ k := by
  intro l h k
  induction k with
  | zero => intro _; refine ⟨fun z hz => ?_, ?_⟩ <;> simp [foldR] at *; exact hz
  | succ k ih =>
    intro hk
    obtain ⟨i1, i2⟩ := ih (by omega)
    rw [foldR_snoc (by omega)]
    have hv := (mayB_vals h (k := k) (by omega)).2
    refine ⟨fun z hz => ?_, ?_⟩
    · unfold stepR at hz
      simp at hz
      obtain ⟨x, _, y, hy, rfl⟩ := hz
      simp [i1 y hy]
    · unfold stepR
      have : ∀ (vs : List ByteArray), (vs.flatMap fun x => (foldR (l.take k)).map (· ++ [((nthV l k).1, x)])).length = vs.length * (foldR (l.take k)).length := by
        intro vs; induction vs with
        | nil => simp
        | cons a r ih => rw [List.flatMap_cons, List.length_append, ih, List.length_map, List.length_cons, Nat.succ_mul]; omega
      rw [this, Nat.pow_succ, Nat.mul_comm (4 ^ k)]
      exact Nat.mul_le_mul hv i2
theorem pow_le {k : Nat} (h : k ≤ 4) : 4 ^ k ≤ 256 := by
  have := Nat.pow_le_pow_right (n := 4) (by omega) h
  simpa using this

def Small (ls : List (List Set1)) : Prop := ∀ z ∈ ls, ∀ x ∈ z, x.1.size ≤ maxLen ∧ x.2.size ≤ maxLen
def SmallV (l : List Var) : Prop := ∀ v ∈ l, v.1.size ≤ maxLen ∧ ∀ x ∈ v.2, x.size ≤ maxLen
theorem mem_nthS {l : List ByteArray} {x : ByteArray} (h : x ∈ l) : ∃ j, j < l.length ∧ nthS l j = x := by
  obtain ⟨j, hj, rfl⟩ := List.mem_iff_getElem.1 h
  exact ⟨j, hj, nthS_lt hj⟩
theorem mem_nthV {l : List Var} {x : Var} (h : x ∈ l) : ∃ j, j < l.length ∧ nthV l j = x := by
  obtain ⟨j, hj, rfl⟩ := List.mem_iff_getElem.1 h
  exact ⟨j, hj, nthV_lt hj⟩
theorem Strs.small {w : World} {v : Value} {l : List ByteArray} (h : Strs w v l) : ∀ x ∈ l, x.size ≤ maxLen := by
  intro x hx
  obtain ⟨j, hj, rfl⟩ := mem_nthS hx
  obtain ⟨A, c, _, _, _, h3⟩ := h
  obtain ⟨_, _, _, _, hc⟩ := h3 (by omega)
  exact (hc j hj).2
theorem Vars.small {w : World} {v : Value} {l : List Var} (h : Vars w v l) : SmallV l := by
  intro x hx
  obtain ⟨j, hj, rfl⟩ := mem_nthV hx
  obtain ⟨A, c, _, _, _, h3⟩ := h
  obtain ⟨_, _, _, _, hc⟩ := h3 (by omega)
  obtain ⟨_, ⟨u, _, g⟩, g2⟩ := hc j hj
  exact ⟨g2, g.small⟩
theorem small_fold {l : List Var} (h : SmallV l) : ∀ k, k ≤ l.length → Small (foldR (l.take k)) := by
  intro k
  induction k with
  | zero => intro _ z hz x hx; simp [foldR] at hz; subst hz; simp at hx
  | succ k ih =>
    intro hk
    rw [foldR_snoc (by omega)]
    have i := ih (by omega)
    obtain ⟨h1, h2⟩ := h _ (nthV_mem (l := l) (i := k) (by omega))
    intro z hz x hx
    unfold stepR at hz
    simp at hz
    obtain ⟨y, hy, z', hz', rfl⟩ := hz
    rcases List.mem_append.1 hx with hx | hx
    · exact i z' hz' x hx
    · simp at hx; subst hx; exact ⟨h1, h2 y hy⟩

/-- A row of rows, all of the call's own. -/
def OwnR (w : World) (base : Nat) (v : Value) (us : List Value) (ls : List (List Set1)) : Prop :=
  w.ownsRow base 25 1 v ls.length us ∧ us.length = ls.length ∧ ∀ (j : Nat) (u : Value) (z : List Set1), us[j]? = some u → ls[j]? = some z → OwnT w base u z

theorem OwnR.below {w w' : World} {base : Nat} {v : Value} {us : List Value} {ls : List (List Set1)} (h : OwnR w base v us ls) (hb : Below w.heap.size w w') : OwnR w' base v us ls :=
  ⟨own_touch h.1 (Touch.of_below (S := fun _ => False) hb) (fun _ _ h => h), h.2.1, fun j u z hu hz => (h.2.2 j u z hu hz).below hb⟩
theorem OwnR.belowB {w w' : World} {base B : Nat} {v : Value} {us : List Value} {ls : List (List Set1)} (h : OwnR w base v us ls) (hb : Below B w w') (hB : w.heap.size ≤ B) : OwnR w' base v us ls := by
  refine h.below (hb.mono hB)
theorem OwnR.alloc {w : World} {base : Nat} {v : Value} {us : List Value} {ls : List (List Set1)} (h : OwnR w base v us ls) (o : Obj) : OwnR (w.alloc o) base v us ls := h.below ((Below.refl _ _).alloc (Nat.le_refl _) o)
theorem OwnR.slice {w : World} {base : Nat} {v : Value} {us : List Value} {ls : List (List Set1)} (h : OwnR w base v us ls) : ∃ A c, v = .slice A ls.length c := by
  rcases own_len h.1 with ⟨e, h0⟩ | ⟨g, cap, e⟩
  · exact ⟨none, 0, by rw [e, h0]⟩
  · exact ⟨_, _, e⟩
theorem OwnR.base {w : World} {base base' : Nat} {v : Value} {us : List Value} {ls : List (List Set1)} (h : OwnR w base v us ls) (hb : base' ≤ base) : OwnR w base' v us ls :=
  ⟨ownsRow_base h.1 hb, h.2.1, fun j u z hu hz => (h.2.2 j u z hu hz).base hb⟩
theorem OwnR.at {w : World} {base : Nat} {A : Option Addr} {L c : Nat} {us : List Value} {ls : List (List Set1)} (h : OwnR w base (.slice A L c) us ls) {k : Nat} (hk : k < L) :
    ∃ b u, A = some ⟨b, 0, none⟩ ∧ w.cell? ⟨b, k, none⟩ = some u ∧ OwnT w base u (nthG ls k) := by
  obtain ⟨A', c', e⟩ := h.slice
  injection e with e1 e2 e3
  subst e1; subst e3; subst e2
  rcases h.1.2 with ⟨e, h0⟩ | ⟨g, cap, cur, e, hg, hh, h1, h2, _, h4⟩
  · omega
  · injection e with e1 e2 e3
    subst e1
    obtain ⟨u0, hu⟩ : ∃ u0, us[k]? = some u0 := ⟨_, List.getElem?_eq_getElem (by rw [h.2.1]; exact hk)⟩
    refine ⟨g, u0, rfl, cells_get hh k ?_, h.2.2 k _ _ hu (by rw [nthG_lt hk]; exact List.getElem?_eq_getElem hk)⟩
    rw [← h4, List.getElem?_take] at hu
    split at hu
    · simpa using hu
    · cases hu
theorem OwnR.app {W w' : World} {base : Nat} {v v' u : Value} {us : List Value} {ls : List (List Set1)} {z : List Set1} (h : OwnR W base v us ls) (hu : OwnT W base u z) (h1 : w'.ownsRow base 25 1 v' (ls.length + 1) (us ++ [u])) (hg : W.grownBy w' v.ownBlock) :
    OwnR w' base v' (us ++ [u]) (ls ++ [z]) := by
  have ht := Touch.of_grown (S := fun i => v.ownBlock = some i) hg (fun i e => e)
  have hap : ∀ x (zz : List Set1), OwnT W base x zz → OwnT w' base x zz := fun x zz hx => hx.touch ht (fun g e e2 => by
    rcases h.1.2 with ⟨e3, _⟩ | ⟨g', cap, cur, e3, _, hh, _⟩
    · rw [e3] at e2; simp [Value.ownBlock] at e2
    · have e4 : v.ownBlock = some g' := by rw [e3]; rfl
      rw [e4] at e2
      injection e2 with e2
      subst e2
      exact own_apart hx hh (by decide) e)
  refine ⟨by simpa using h1, by simp [h.2.1], fun j x zz hx hz => ?_⟩
  by_cases hj : j < ls.length
  · rw [List.getElem?_append_left (by rw [h.2.1]; exact hj)] at hx
    rw [List.getElem?_append_left hj] at hz
    exact hap _ _ (h.2.2 j x zz hx hz)
  · rw [List.getElem?_append_right (by omega)] at hz
    rw [List.getElem?_append_right (by have := h.2.1; omega)] at hx
    have hj0 : j - ls.length = 0 := by
      have := (List.getElem?_eq_some_iff.1 hz).1
      simp at this; omega
    rw [hj0] at hz
    rw [h.2.1, hj0] at hx
    simp at hx hz
    subst hx; subst hz
    exact hap _ _ hu

/-- A row is appended to a row of rows of the call's own. -/
theorem appR_list {ops : Array Oper} {rest : List Oper} {o : Oper} {a : Act} {Q : Exit → Act → World → Prop} {W : World} {base n blk cp : Nat} {A : Option Addr} {us : List Value} {ls : List (List Set1)} {A1 : Option Addr} {L1 c1 : Nat} {z : List Set1} (s y : Operand)
    (hgd : o.guard = none) (ho : o.op = .call { callee := .builtin .append, args := #[s, y], argTypes := #[31, 31] })
    (hs : a.eval s = .slice A n cp) (hown : OwnR W base (.slice A n cp) us ls) (hx : a.eval y = .slice (some ⟨blk, 0, none⟩) 1 1)
    (hn : W.heap[blk]? = some (.cells #[.slice A1 L1 c1] 25 (0, 0))) (hu : OwnT W base (.slice A1 L1 c1) z) (hsz : ls.length ≤ 65536) (hbase : base ≤ W.heap.size)
    (h : ∀ T m c w', OwnR w' base (.slice T m c) (us ++ [.slice A1 L1 c1]) (ls ++ [z]) → m = ls.length + 1 → W.grownBy w' (Value.slice A n cp).ownBlock → wpList Try.prog ops Q rest (a.put o.dst (.slice T m c)) w') :
    wpList Try.prog ops Q (o :: rest) a W := by
  obtain ⟨i0, hi0, hz0, hz1, hz2⟩ := info_parts sets_info
  obtain ⟨A', c', e⟩ := hown.slice
  injection e with _ e2 _
  subst e2
  refine wpList_plain hgd fun K hK => ?_
  exact wp_append_lies W s y 31 ho base 25 i0 _ 1 24 Try.underlying31 hi0 hz0 hz1 hz2 rfl (by omega) _ ls.length us hs hown.1 ⟨blk, 0, none⟩ 1 1 [.slice A1 L1 c1] hx rfl
    (World.news_of_block (cs := #[.slice A1 L1 c1]) hn) (by simp [Value.oneCell']) (by omega) (by unfold maxLen; omega) (by omega) hbase _ rfl (fun g cap w' h1 h2 h3 h4 => hK _ _ (h _ _ cap w' (hown.app hu h1 h2) rfl h2))

end Go.Proofs.Ytbdceeecngibmaa.Va
