/- OrderMore's steps in memory. -/
import Derived.Test.YtiimhndiifojnaaOrInv
import Derived.Laws.OwnMore
namespace Go.Proofs.Ytiimhndiifojnaa.Or
open Go.RowKit To

/-- Rows that came in, none of them longer than the form's reach. -/
def Rows3 (w : World) (b off n : Nat) (Ln : Nat → Nat) (Z : Nat → Nat → Int) : Prop :=
  Rows2 w b off n Ln Z ∧ ∀ r, r < n → Ln r ≤ 17592186044416 ∧ ∀ x L c, w.cell? ⟨b, off + r, none⟩ = some (.slice x L c) → x = none → c = 0
def Rows3At (w : World) (A : Option Addr) (n : Nat) (Ln : Nat → Nat) (Z : Nat → Nat → Int) : Prop := n = 0 ∨ ∃ b off, A = some ⟨b, off, none⟩ ∧ Rows3 w b off n Ln Z
theorem Rows3At.two {w : World} {A : Option Addr} {n : Nat} {Ln : Nat → Nat} {Z : Nat → Nat → Int} (h : Rows3At w A n Ln Z) : RowsAt w A n Ln Z := by
  rcases h with h | ⟨b, off, e, h⟩
  · exact .inl h
  · exact .inr ⟨b, off, e, h.1⟩
theorem one_news_at {w : World} {u : Value} {e : TypeId} {X : Nat} (h : X = w.heap.size) : ∀ j x, [u][j]? = some x → (w.alloc (.cells #[u] e)).cell? ((⟨X, 0, none⟩ : Addr).add j) = some x := by
  subst h; exact one_news
/-- A way round is told just if there is one. -/
def CircLen (w : World) (n : Nat) (Ln : Nat → Nat) (Z : Nat → Nat → Int) (e : Ending) (w' : World) : Prop := ∃ A L c, e = .returned (.slice A L c) ∧ (0 < L ↔ Round n Ln Z) ∧ Below w.heap.size w w'
theorem circle_len (w : World) (A : Option Addr) (n cap : Nat) (Ln : Nat → Nat) (Z : Nat → Nat → Int) (hn : n ≤ 1000) (hE : RowsAt w A n Ln Z) :
    Calls Try.prog 6 #[.slice A n cap] w (CircLen w n Ln Z) := by
  refine (circle_any w A n cap Ln Z hn hE).mono ?_
  rintro e w' ⟨hb, h⟩
  rcases h with ⟨rfl, hr⟩ | ⟨v, l, C, rfl, hc, _, hq⟩
  · exact ⟨none, 0, 0, rfl, ⟨fun h => absurd h (Nat.lt_irrefl _), fun h => absurd h hr⟩, hb⟩
  · obtain ⟨g, off, L, cp, rfl, hL, _⟩ := hq.open'
    exact ⟨_, _, _, rfl, ⟨fun _ => hc.round, fun _ => by rw [hL]; exact hc.pos⟩, hb⟩
section
variable {w0 w w3 : World} {n : Nat} {V : Nat → Nat → Value} {R : Nat → Nat → List Int}
theorem Fam.push {v' : Value} {g p : Nat} {news : List Int} (h : Fam w0 w n V R) (hg : g < 3) (hp : p < n) (X : Obj) (hown : OwnL w3 w0.heap.size v' (R g p ++ news)) (hgr : (w.alloc X).grownBy w3 (V g p).ownBlock)
    (hb : v'.ownBlock = (V g p).ownBlock ∨ v'.ownBlock = some (w.alloc X).heap.size) :
    Fam w0 (w3.setCell ⟨w0.heap.size + g, p, none⟩ v') n (upd2 V g p v') (upd2 R g p (R g p ++ news)) ∧ w3.heap[w0.heap.size + g]? = some (.cells (boxOf (V g) n) 23 (0, 0)) :=
  h.put hg hp (((Touch.refl w _).alloc X).trans (Touch.of_grown (S := fun i => (V g p).ownBlock = some i) hgr (fun i e => e)) (fun _ _ h => h)) hown (fun b e => by
    rcases hb with hb | hb
    · exact .inl (hb ▸ e)
    · rw [e] at hb; cases hb; exact .inr (by simp))
theorem Fam.lay {v' : Value} {p : Nat} {l' : List Int} (h : Fam w0 w n V R) (hp : p < n) (X : Obj) (hown : OwnL w3 w0.heap.size v' l') (hgr : (w.alloc X).grownBy w3 (some w.heap.size))
    (hb : v'.ownBlock = some w.heap.size ∨ v'.ownBlock = some (w.alloc X).heap.size) :
    Fam w0 (w3.setCell ⟨w0.heap.size, p, none⟩ v') n (upd2 V 0 p v') (upd2 R 0 p l') ∧ w3.heap[w0.heap.size]? = some (.cells (boxOf (V 0) n) 23 (0, 0)) :=
  h.put (g := 0) (by decide) hp (((Touch.refl w _).alloc X).trans (Touch.of_grown (S := fun i => i = w.heap.size) hgr (fun i e => by cases e; rfl)) (fun i hi e => absurd hi (by omega))) hown (fun b e => by
    rcases hb with hb | hb
    · rw [e] at hb; cases hb; exact .inr (Nat.le_refl _)
    · rw [e] at hb; cases hb; exact .inr (by simp))
end
theorem wpList_app_nothing {ops : Array Oper} {rest : List Oper} {o : Oper} {a : Act} {Q : Exit → Act → World → Prop} (hgd : o.guard = none) (s y : Operand)
    (ho : o.op = .call { callee := .builtin .append, args := #[s, y], argTypes := #[23, 23] }) (hty : o.type = 23)
    {w : World} {base : Nat} {v : Value} {l : List Int} (hs : a.eval s = v) (hx : a.eval y = .slice none 0 0) (hown : OwnL w base v l)
    (hK : wpList Try.prog ops Q rest (a.put o.dst v) w) : wpList Try.prog ops Q (o :: rest) a w := by
  refine wpList_plain hgd fun K hK' => ?_
  obtain ⟨i0, hi0, hz0, hz1, hz2⟩ := info_parts i64_info
  have hrun := run_append_owned_none (P := Try.prog) (w := w) base 23 23 3 i0 1 Try.underlying23 hi0 v l.length (l.map encI) hown
  unfold Oper.wp
  simp [execOp, ho, hty, resolve, invoke, builtin, hs, hx, hrun, Result.andThen]
  exact hK' _ _ hK
theorem rowK_src {w : World} {p D : Nat} {Z : Nat → Nat → Int} {ad : Addr} (h : ∀ i, i < D → ∃ bb oo, some ad = some (⟨bb, oo, none⟩ : Addr) ∧ w.cell? ⟨bb, oo + i, none⟩ = some (.int .i64 (Z p i))) :
    ∀ j u, ((rowK Z p D).map encI)[j]? = some u → w.cell? (ad.add j) = some u := fun j u hj => by
  obtain ⟨hl, e⟩ := List.getElem?_eq_some_iff.1 hj
  rw [List.length_map, rowK_len] at hl
  obtain ⟨bb, oo, ea, hc⟩ := h j hl
  cases ea
  rw [Addr.add_lit, hc, ← e]
  simp [rowK]
end Go.Proofs.Ytiimhndiifojnaa.Or
