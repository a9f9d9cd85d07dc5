/- Rows of numbers in memory: those that are read; a row of the call's own that begins anywhere in its block. -/
import Derived.Test.YtiimhndiifojnaaRows
import Derived.Test.YtiimhndiifojnaaMem
import Derived.Test.YtiimhndiifojnaaOrMath
import Derived.Test.YtiimhndiifojnaaShelf
import Derived.ArgAppend
import Derived.Deep.MidRow
import Derived.Deep.Onto
namespace Go.Proofs.Ytiimhndiifojnaa.Or
open Go.RowKit

/-- Rows of numbers that lie in memory. -/
def Rows2 (w : World) (b off n : Nat) (Ln : Nat → Nat) (Z : Nat → Nat → Int) : Prop :=
  ∀ r, r < n → Ln r ≤ maxLen ∧ b < w.heap.size ∧ ∃ x c, w.cell? ⟨b, off + r, none⟩ = some (.slice x (Ln r) c) ∧ Ln r ≤ c ∧
    ∀ i, i < Ln r → (Lit.int .i64 (Z r i)).wf = true ∧ ∃ bb oo, x = some ⟨bb, oo, none⟩ ∧ bb < w.heap.size ∧ w.cell? ⟨bb, oo + i, none⟩ = some (.int .i64 (Z r i))

theorem Rows2.below {w w' : World} {b off n B : Nat} {Ln : Nat → Nat} {Z : Nat → Nat → Int} (h : Rows2 w b off n Ln Z) (hb : Below B w w') (hB : w.heap.size ≤ B) : Rows2 w' b off n Ln Z := fun r hr => by
  obtain ⟨h1, h2, x, c, hc, hle, h3⟩ := h r hr
  refine ⟨h1, Nat.lt_of_lt_of_le h2 hb.size, x, c, (hb.cell (p := ⟨b, off + r, none⟩) (by simp; omega)).trans hc, hle, fun i hi => ?_⟩
  obtain ⟨h4, bb, oo, hx, hbb, hcc⟩ := h3 i hi
  exact ⟨h4, bb, oo, hx, Nat.lt_of_lt_of_le hbb hb.size, (hb.cell (p := ⟨bb, oo + i, none⟩) (by simp; omega)).trans hcc⟩

def i64s (l : List Nat) : List Value := l.map fun (a : Nat) => .int .i64 (a : Int)
theorem i64s_get {l : List Nat} {p : Nat} (h : p < l.length) : (i64s l)[p]? = some (.int .i64 (nth l p : Int)) := by simp [i64s, nth_get h]
theorem i64s_len (l : List Nat) : (i64s l).length = l.length := by simp [i64s]

/-- A row of the call's own, anywhere in a block other than C. -/
def Queue (w : World) (base C : Nat) (v : Value) (l : List Nat) : Prop :=
  ∃ g off cap, v = .slice (some ⟨g, off, none⟩) l.length cap ∧ base ≤ g ∧ g ≠ C ∧ g < w.heap.size ∧ l.length ≤ cap ∧ cap ≤ maxLen ∧ w.there g off cap ∧ w.rangeAt g off (i64s l)

theorem setCells_touch (g : Nat) : ∀ (vs : List Value) (o : Nat) (w : World), Touch w (w.setCells g o vs) (fun i => i = g)
  | [], _, _ => Touch.refl _ _
  | v :: r, o, w => ((Touch.refl w (fun i => i = g)).set g o v rfl).trans (setCells_touch g r (o + 1) _) (fun _ _ h => h)

theorem i64_info : (Try.prog.info? 3).map (fun i => (i.zero, i.size, i.bytes)) = some (some (.int .i64 0), 1, 8) := by kernel_rfl

theorem make_ints (n : Nat) (hn : n ≤ 65537) (x : Int) (hx : x = n) (W : World) : (Instr.makeSlice 23 (.int .i64 x) (.int .i64 x)).run Try.prog W = .ok (.slice (some ⟨W.heap.size, 0, none⟩) n n) (W.alloc (.cells (i64s (List.replicate n 0)).toArray 3)) := by
  subst hx
  obtain ⟨i0, hi0, hz0, hz1, hz2⟩ := info_parts i64_info
  rw [run_make (P := Try.prog) W 23 3 i0 _ Try.underlying23 hi0 hz0 .i64 .i64 n n (by omega) (by omega) (by rw [hz2]; omega) (by omega), hz1]
  have e : madeCells (Value.int .i64 0).cells n = (i64s (List.replicate n 0)).toArray := by
    apply Array.ext'
    have := toList_madeCells_one (.int .i64 0) n
    rw [show (Value.int .i64 0).cells = #[.int .i64 0] from rfl, this]
    simp [i64s]
  simp [e]

theorem Queue.touch {w w' : World} {base C : Nat} {v : Value} {l : List Nat} {S : Nat → Prop} (h : Queue w base C v l) (ht : Touch w w' S) (hS : ∀ g, S g → g = C ∨ g < base) : Queue w' base C v l := by
  obtain ⟨g, off, cap, rfl, h1, h2, h3, h4, h5, h6, h7⟩ := h
  have hb : w'.heap[g]? = w.heap[g]? := ht.block g h3 fun hs => by rcases hS g hs with e | e; exact h2 e; omega
  exact ⟨g, off, cap, rfl, h1, h2, Nat.lt_of_lt_of_le h3 ht.size, h4, h5, fun j hj => by
    rw [World.cell?_of_block (a := ⟨g, off + j, none⟩) hb, World.frozen?_of_block (a := ⟨g, off + j, none⟩) hb]; exact h6 j hj, fun j u hu => by
    rw [World.cell?_of_block (a := ⟨g, off + j, none⟩) hb]; exact h7 j u hu⟩

/-- The first one gone. -/
theorem Queue.tail {w : World} {base C : Nat} {g off cap len : Nat} {x : Nat} {l : List Nat} (h : Queue w base C (.slice (some ⟨g, off, none⟩) len cap) (x :: l)) :
    Queue w base C (.slice (some (if cap = 1 then ⟨g, off, none⟩ else ⟨g, off + 1, none⟩)) l.length (cap - 1)) l := by
  obtain ⟨g', off', cap', e, h1, h2, h3, h4, h5, h6, h7⟩ := h
  injection e with e1 e2 e3
  injection e1 with e1
  injection e1 with e1 e4
  subst e1; subst e3; subst e4
  simp at h4
  by_cases hc : cap = 1
  · subst hc
    obtain rfl : l = [] := List.eq_nil_of_length_eq_zero (by omega)
    exact ⟨g, off, 0, rfl, h1, h2, h3, by simp, by simp [maxLen], fun j hj => by omega, fun j u hu => by simp [i64s] at hu⟩
  · rw [if_neg hc]
    refine ⟨g, off + 1, cap - 1, rfl, h1, h2, h3, by omega, by omega, fun j hj => ?_, fun j u hu => ?_⟩
    · have := h6 (j + 1) (by omega)
      rwa [show off + (j + 1) = off + 1 + j by omega] at this
    · have := h7 (j + 1) u (by simpa [i64s] using hu)
      rwa [show off + (j + 1) = off + 1 + j by omega] at this

theorem run_append_q {w : World} {base C : Nat} {v : Value} {l : List Nat} (h : Queue w base C v l) (_hC : C < w.heap.size) (_hb : base ≤ w.heap.size) (hl : l.length ≤ 100000) (u : Nat) (X : Nat) (hx : ∀ j y, [Value.int .i64 (u : Int)][j]? = some y → w.cell? ((⟨X, 0, none⟩ : Addr).add j) = some y) :
    ∃ v' w', (Builtin.append_ #[23, 23] 23 #[v, .slice (some ⟨X, 0, none⟩) 1 1]).run Try.prog w = .ok v' w' ∧ Queue w' base C v' (l ++ [u]) ∧ Touch w w' (fun i => base ≤ i ∧ i ≠ C) := by
  obtain ⟨i0, hi0, hz0, hz1, hz2⟩ := info_parts i64_info
  obtain ⟨g, off, cap, rfl, h1, h2, h3, h4, h5, h6, h7⟩ := h
  have hone : ∀ y ∈ [Value.int .i64 (u : Int)], y.oneCell' = true := fun y hy => by simp at hy; subst hy; rfl
  by_cases hr : l.length + 1 ≤ cap
  · have hrun := run_append_room_cells (P := Try.prog) w 23 23 3 i0 Try.underlying23 hi0 g off l.length cap ⟨X, 0, none⟩ 1 1 [.int .i64 (u : Int)] (by simp [hz1]) hx hone hr
      (fun j hj => by simp at hj; subst hj; rw [hz1]; simpa using (h6 l.length (by omega)).1) (fun j hj => by simp at hj; subst hj; rw [hz1]; simpa using (h6 l.length (by omega)).2)
    rw [hz1, Nat.mul_one] at hrun
    refine ⟨_, _, hrun, ⟨g, off, cap, by simp, h1, h2, ?_, by simpa using hr, h5, World.there_setCells h6 _ _ _, fun j y hy => ?_⟩, (setCells_touch g _ _ w).mono fun i hi => by subst hi; exact ⟨h1, h2⟩⟩
    · exact Nat.lt_of_lt_of_le h3 (setCells_touch g _ _ w).size
    · by_cases hj : j < l.length
      · rw [World.cell?_setCells_out g _ _ _ _ (fun _ _ => .inl (by simp; omega))]
        refine h7 j y ?_
        simp only [i64s, List.map_append] at hy ⊢
        rwa [List.getElem?_append_left (by simpa using hj)] at hy
      · simp only [i64s, List.map_append] at hy
        rw [List.getElem?_append_right (by simp; omega)] at hy
        have hj2 : j = l.length := by
          have := (List.getElem?_eq_some_iff.1 hy).1
          simp at this; omega
        subst hj2
        have := World.cell?_setCells_in g [.int .i64 (u : Int)] (off + l.length) w (fun j hj => by simp at hj; subst hj; simpa using (h6 l.length (by omega)).1) 0 (by simp)
        simp at hy this
        rw [this, hy]
  · have holds : ∀ j y, (i64s l)[j]? = some y → w.cell? ((⟨g, off, none⟩ : Addr).add j) = some y := fun j y hy => by rw [Addr.add_mid]; exact h7 j y hy
    obtain ⟨v', w', hrun, r1, r2⟩ := run_append_arg_grows (P := Try.prog) w 23 23 3 i0 _ 1 8 Try.underlying23 hi0 hz0 hz1 hz2 rfl (by decide) ⟨g, off, none⟩ l.length cap (i64s l) (by simp [i64s]) holds ⟨X, 0, none⟩ 1 1 [.int .i64 (u : Int)] rfl hx (by omega)
      (by unfold maxLen; omega) (by omega)
    refine ⟨v', w', hrun, ?_, Touch.of_grown (r2) (fun i e => by cases e)⟩
    rcases r1.2 with ⟨_, h0⟩ | ⟨g', cap', cur, rfl, hb', hh, hle, hcm, hsz, htk⟩
    · omega
    · have hcell : ∀ j y, cur[j]? = some y → w'.cell? ⟨g', j, none⟩ = some y := fun j y hy => cells_get hh j hy
      have hg' : g' < w'.heap.size := lt_of_heap hh
      refine ⟨g', 0, cap', by simp, by omega, by omega, hg', by simpa using hle, hcm, fun j hj => ?_, fun j y hy => ?_⟩
      · have hj' : j < cur.size := by omega
        rw [Nat.zero_add, hcell j _ (Array.getElem?_eq_getElem hj')]
        exact ⟨rfl, cells_free hh j⟩
      · rw [Nat.zero_add]
        refine hcell j y ?_
        have e : (i64s l ++ [.int .i64 (u : Int)]) = i64s (l ++ [u]) := by simp [i64s]
        rw [e] at htk
        rw [← htk, List.getElem?_take] at hy
        split at hy
        · simpa using hy
        · cases hy

theorem wpList_append_q {ops : Array Oper} {rest : List Oper} {o : Oper} {a : Act} {Q : Exit → Act → World → Prop} (hgd : o.guard = none) (s x : Operand)
    (ho : o.op = .call { callee := .builtin .append, args := #[s, x], argTypes := #[23, 23] }) (hty : o.type = 23)
    {w : World} {base C : Nat} {v : Value} {l : List Nat} (hs : a.eval s = v) (h : Queue w base C v l) (hC : C < w.heap.size) (hb : base ≤ w.heap.size) (hl : l.length ≤ 100000) (u : Nat) (X : Nat) (hxe : a.eval x = .slice (some ⟨X, 0, none⟩) 1 1)
    (hx : ∀ j y, [Value.int .i64 (u : Int)][j]? = some y → w.cell? ((⟨X, 0, none⟩ : Addr).add j) = some y)
    (hK : ∀ v' w', Queue w' base C v' (l ++ [u]) → Touch w w' (fun i => base ≤ i ∧ i ≠ C) → wpList Try.prog ops Q rest (a.put o.dst v') w') : wpList Try.prog ops Q (o :: rest) a w := by
  refine wpList_plain hgd fun K hK' => ?_
  obtain ⟨v', w', hrun, r1, r2⟩ := run_append_q h hC hb hl u X hx
  unfold Oper.wp
  simp [execOp, ho, hty, resolve, invoke, builtin, hs, hxe, hrun, Result.andThen]
  exact hK' _ _ (hK v' w' r1 r2)

/-- The shelf's Reverse, at such a row. -/
theorem reverse_q {w : World} {base C : Nat} {v : Value} {l : List Nat} (h : Queue w base C v l) (hl : l.length ≤ 100000) :
    Calls Try.prog 24 #[v] w fun e w' => e = .returned (.tuple #[]) ∧ Queue w' base C v l.reverse ∧ Touch w w' (fun i => base ≤ i ∧ i ≠ C) := by
  obtain ⟨g, off, cap, rfl, h1, h2, h3, h4, h5, h6, h7⟩ := h
  refine (Try.slices_Reverse_int_cells g off l.length cap (l.map fun (a : Nat) => (a : Int)) w (by simp) (by omega) (fun j hj => ?_) (fun j hj => (h6 j (by omega)).2)).mono ?_
  · simp at hj
    rw [h7 j _ (i64s_get hj)]
    unfold nth
    simp [List.getD_eq_getElem?_getD, hj]
  · rintro e w' ⟨rfl, q, rfl⟩
    have e : (((l.map fun (a : Nat) => (a : Int)).take l.length).reverse.map (Value.int .i64)) = i64s l.reverse := by
      rw [List.take_of_length_le (by simp)]; simp [i64s, Function.comp_def]
    rw [e]
    have ht := (Touch.refl w (fun i => i = g)).drewN q |>.trans (setCells_touch g (i64s l.reverse) off (w.drewN q)) (fun _ _ h => h)
    have h6' : (w.drewN q).there g off cap := h6
    refine ⟨rfl, ⟨g, off, cap, by simp, h1, h2, Nat.lt_of_lt_of_le h3 ht.size, by simpa using h4, h5, World.there_setCells h6' _ _ _, ?_⟩, ht.mono fun i hi => by subst hi; exact ⟨h1, h2⟩⟩
    exact World.rangeAt_setCells_same (w.drewN q) g off (i64s l.reverse) (fun j hj => h6' j (by rw [i64s_len, List.length_reverse] at hj; omega))

end Go.Proofs.Ytiimhndiifojnaa.Or
