/- A builder in memory; Add. -/
import Derived.Test.YtiomocmceccmbaaCnForm
namespace Go.Proofs.Ytiomocmceccmbaa.Cn
open Go.RowKit

/-- Rows of numbers by their slices. -/
def RowsOf (w : World) (base : Nat) (F : Nat → Prop) (vs : List Value) (ls : List (List Int)) : Prop :=
  ls.length = vs.length ∧ ∀ (j : Nat) (u : Value) (z : List Int), vs[j]? = some u → ls[j]? = some z → Row w base u z ∧ (z ≠ [] → ∀ b, u.ownBlock = some b → ¬ F b)

/-- A builder in the block B; its row of clauses is v. -/
structure Bld (w : World) (base B : Nat) (v : Value) (vs : List Value) (ls : List (List Int)) (bad full : Bool) : Prop where
  head : w.heap[B]? = some (.cells #[v, .bool bad, .bool full] 57 (0, 0))
  own : w.ownsRow base 22 1 v vs.length vs
  rows : RowsOf w base (fun b => b = B ∨ v.ownBlock = some b) vs ls
  least : base ≤ B
  few : vs.length ≤ 262144

theorem Row.touchs {w w' : World} {base : Nat} {u : Value} {z : List Int} {S : Nat → Prop} (h : Row w base u z) (ht : Touch w w' S) (hS : z ≠ [] → ∀ b, u.ownBlock = some b → ¬ S b) : Row w' base u z := by
  obtain ⟨A, c, rfl, h1, h2, h3, h4⟩ := h
  refine ⟨A, c, rfl, h1, h2, ?_, h4⟩
  by_cases hz : z = []
  · exact .inl hz
  · rcases h3 with e | ⟨b, off, rfl, hB, hlt, hc⟩
    · exact absurd e hz
    · refine .inr ⟨b, off, rfl, hB, Nat.lt_of_lt_of_le hlt ht.size, fun j hj => ?_⟩
      rw [World.cell?_of_block (a := ⟨b, off + j, none⟩) (ht.block b hlt (hS hz b rfl))]
      exact hc j hj

theorem Row.block {w : World} {base : Nat} {u : Value} {z : List Int} (h : Row w base u z) (hz : z ≠ []) : ∀ b, u.ownBlock = some b → base ≤ b ∧ b < w.heap.size := by
  obtain ⟨A, c, rfl, h1, h2, h3, h4⟩ := h
  rcases h3 with e | ⟨b, off, rfl, hB, hlt, hc⟩
  · exact absurd e hz
  · intro b' hb'
    simp [Value.ownBlock] at hb'
    subst hb'; exact ⟨hB, hlt⟩

theorem RowsOf.touch {w w' : World} {base : Nat} {F S : Nat → Prop} {vs : List Value} {ls : List (List Int)} (h : RowsOf w base F vs ls) (ht : Touch w w' S) (hS : ∀ b, S b → F b) : RowsOf w' base F vs ls :=
  ⟨h.1, fun j u z hu hz => by
    obtain ⟨h1, h2⟩ := h.2 j u z hu hz
    exact ⟨h1.touchs ht fun hne b hb hs => h2 hne b hb (hS b hs), h2⟩⟩

theorem RowsOf.below {w w' : World} {base : Nat} {F : Nat → Prop} {vs : List Value} {ls : List (List Int)} (h : RowsOf w base F vs ls) (hb : Below w.heap.size w w') : RowsOf w' base F vs ls :=
  h.touch (S := fun _ => False) (Touch.of_below hb) (fun _ h => h.elim)

theorem RowsOf.snoc {w : World} {base : Nat} {F : Nat → Prop} {vs : List Value} {ls : List (List Int)} {u : Value} {z : List Int} (h : RowsOf w base F vs ls) (hr : Row w base u z) (hF : z ≠ [] → ∀ b, u.ownBlock = some b → ¬ F b) : RowsOf w base F (vs ++ [u]) (ls ++ [z]) := by
  refine ⟨by simp [h.1], fun j u' z' hu hz => ?_⟩
  by_cases hj : j < vs.length
  · rw [List.getElem?_append_left hj] at hu
    rw [List.getElem?_append_left (by rw [h.1]; exact hj)] at hz
    exact h.2 j u' z' hu hz
  · have hj' : j = vs.length := by have := (List.getElem?_eq_some_iff.1 hu).1; simp at this; omega
    subst hj'
    rw [List.getElem?_append_right (Nat.le_refl _)] at hu
    rw [List.getElem?_append_right (by rw [h.1]; exact Nat.le_refl _)] at hz
    simp at hu
    rw [h.1] at hz; simp at hz
    subst hu; subst hz
    exact ⟨hr, hF⟩

theorem RowsOf.weak {w : World} {base : Nat} {F G : Nat → Prop} {vs : List Value} {ls : List (List Int)} (h : RowsOf w base F vs ls) (hG : ∀ b, b < w.heap.size → G b → F b) : RowsOf w base G vs ls :=
  ⟨h.1, fun j u z hu hz => by
    obtain ⟨h1, h2⟩ := h.2 j u z hu hz
    exact ⟨h1, fun hne b hb hg => h2 hne b hb (hG b (h1.block hne b hb).2 hg)⟩⟩

theorem Bld.below {w w' : World} {base B : Nat} {v : Value} {vs : List Value} {ls : List (List Int)} {bad full : Bool} (h : Bld w base B v vs ls bad full) (hb : Below w.heap.size w w') : Bld w' base B v vs ls bad full :=
  ⟨heap_below h.head hb, own_touch h.own (Touch.of_below (S := fun _ => False) hb) (fun _ _ h => h), h.rows.below hb, h.least, h.few⟩

theorem Bld.setBad {w : World} {base B : Nat} {v : Value} {vs : List Value} {ls : List (List Int)} {bad full : Bool} (h : Bld w base B v vs ls bad full) (x : Bool) : Bld (w.setCell ⟨B, 1, none⟩ (.bool x)) base B v vs ls x full := by
  have ha := own_apart h.own h.head (by decide)
  have ht : Touch w (w.setCell ⟨B, 1, none⟩ (.bool x)) (fun i => i = B) := (Touch.refl w (fun i => i = B)).set B 1 _ rfl
  refine ⟨by rw [cells_set h.head 1 (.bool x)]; rfl, own_touch h.own ht (fun g hg e => by rw [e] at hg; exact ha hg), h.rows.touch ht (fun b e => .inl e), h.least, h.few⟩
theorem Bld.setFull {w : World} {base B : Nat} {v : Value} {vs : List Value} {ls : List (List Int)} {bad full : Bool} (h : Bld w base B v vs ls bad full) (x : Bool) : Bld (w.setCell ⟨B, 2, none⟩ (.bool x)) base B v vs ls bad x := by
  have ha := own_apart h.own h.head (by decide)
  have ht : Touch w (w.setCell ⟨B, 2, none⟩ (.bool x)) (fun i => i = B) := (Touch.refl w (fun i => i = B)).set B 2 _ rfl
  refine ⟨by rw [cells_set h.head 2 (.bool x)]; rfl, own_touch h.own ht (fun g hg e => by rw [e] at hg; exact ha hg), h.rows.touch ht (fun b e => .inl e), h.least, h.few⟩

theorem slice_info : (Try.prog.info? 22).map (fun i => (i.zero, i.size, i.bytes)) = some (some (.slice none 0 0), 1, 24) := by kernel_rfl

/-- An append of one slice to a row of slices of the call's own. -/
theorem app_slice {ops : Array Oper} {rest : List Oper} {o : Oper} {a : Act} {Q : Exit → Act → World → Prop} {W : World} {base n blk cp A2 c2 : Nat} {A : Option Addr} {A1 : Option Addr} {xs : List Value} (s y : Operand)
    (hgd : o.guard = none) (ho : o.op = .call { callee := .builtin .append, args := #[s, y], argTypes := #[29, 29] })
    (hs : a.eval s = .slice A n cp) (hown : W.ownsRow base 22 1 (.slice A n cp) n xs) (hx : a.eval y = .slice (some ⟨blk, 0, none⟩) 1 1)
    (hn : W.heap[blk]? = some (.cells #[.slice A1 A2 c2] 22 (0, 0))) (hsz : n ≤ 400000) (hbase : base ≤ W.heap.size)
    (h : ∀ g cap w', w'.ownsRow base 22 1 (.slice (some ⟨g, 0, none⟩) (n + 1) cap) (n + 1) (xs ++ [.slice A1 A2 c2]) → W.grownBy w' (Value.slice A n cp).ownBlock → ((Value.slice A n cp).ownBlock = some g ∨ g = W.heap.size) → g < w'.heap.size → wpList Try.prog ops Q rest (a.put o.dst (.slice (some ⟨g, 0, none⟩) (n + 1) cap)) w') :
    wpList Try.prog ops Q (o :: rest) a W := by
  obtain ⟨i0, hi0, hz0, hz1, hz2⟩ := info_parts slice_info
  refine wpList_plain hgd fun K hK => ?_
  exact wp_append_lies W s y 29 ho base 22 i0 _ 1 24 Try.underlying29 hi0 hz0 hz1 hz2 rfl (by omega) _ n xs hs hown ⟨blk, 0, none⟩ 1 1 [.slice A1 A2 c2] hx rfl
    (World.news_of_block (cs := #[.slice A1 A2 c2]) hn) (by simp [Value.oneCell']) (by omega) (by unfold maxLen; omega) (by omega) hbase _ rfl (fun g cap w' h1 h2 h3 h4 => hK _ _ (h g cap w' h1 h2 h3 h4))

/-- Behind the append and the store of the row. -/
theorem Bld.grow {w0 w w1 : World} {X : Obj} {base B n g cap cp : Nat} {A : Option Addr} {u : Value} {f : List Int} {vs : List Value} {ls : List (List Int)} {bad full : Bool} (h : Bld w base B (.slice A n cp) vs ls bad full) (hn : n = vs.length) (hfew : n < 262144)
    (hr : Row w base u f) (hfr : f ≠ [] → ∀ b, u.ownBlock = some b → w0.heap.size ≤ b) (hB0 : B < w0.heap.size) (hA0 : ∀ b, (Value.slice A n cp).ownBlock = some b → b < w0.heap.size)
    (ho : w1.ownsRow base 22 1 (.slice (some ⟨g, 0, none⟩) (n + 1) cap) (n + 1) (vs ++ [u])) (hg : (w.alloc X).grownBy w1 (Value.slice A n cp).ownBlock)
    (hat : (Value.slice A n cp).ownBlock = some g ∨ g = (w.alloc X).heap.size) :
    Bld (w1.setCell ⟨B, 0, none⟩ (.slice (some ⟨g, 0, none⟩) (n + 1) cap)) base B (.slice (some ⟨g, 0, none⟩) (n + 1) cap) (vs ++ [u]) (ls ++ [f]) bad full := by
  subst hn
  have ha := own_apart h.own h.head (by decide)
  have h2 := heap_grown (heap_below h.head ((Below.refl _ _).alloc (Nat.le_refl _) X)) hg (Ne.symm ha)
  have ha1 := own_apart ho h2 (by decide)
  have ht : Touch w w1 (fun b => b = B ∨ (Value.slice A vs.length cp).ownBlock = some b) := ((Touch.refl w (fun b => b = B ∨ (Value.slice A vs.length cp).ownBlock = some b)).alloc X).trans (Touch.of_grown (S := fun b => b = B ∨ (Value.slice A vs.length cp).ownBlock = some b) hg (fun i e => .inr e)) (fun _ _ h => h)
  have ht2 := ht.set B 0 (.slice (some ⟨g, 0, none⟩) (vs.length + 1) cap) (.inl rfl)
  refine ⟨by rw [cells_set h2 0]; rfl, ?_, ?_, h.least, by simp; omega⟩
  · have e : (vs ++ [u]).length = vs.length + 1 := by simp
    rw [e]
    exact own_touch ho ((Touch.refl w1 (fun i => i = B)).set B 0 _ rfl) (fun g' hg' e => by rw [e] at hg'; exact ha1 hg')
  · have hrows := ((h.rows.snoc hr (fun hne b hb hF => by
      have := hfr hne b hb
      rcases hF with e | e
      · omega
      · have := hA0 b e; omega)).touch ht2 (fun _ h => h))
    refine ⟨hrows.1, fun j u' z hu hz => ?_⟩
    obtain ⟨r1, r2⟩ := hrows.2 j u' z hu hz
    refine ⟨r1, fun hne b hb hG => r2 hne b hb ?_⟩
    rcases hG with e | e
    · exact .inl e
    · simp [Value.ownBlock] at e
      rcases hat with e2 | e2
      · right; rw [← e]; exact e2
      · -- a new block: no row lies in it
        exfalso
        have hold := h.rows.snoc hr (fun hne b hb hF => by
          have := hfr hne b hb
          rcases hF with e | e
          · omega
          · have := hA0 b e; omega)
        have := (hold.2 j u' z hu hz).1.block hne b hb
        simp at e2
        omega

/-- How many clauses there may be. -/
def maxC : Nat := 262144
theorem maxC_le {n : Nat} (h : 262144 ≤ n) : maxC ≤ n := h
theorem maxC_lt {n : Nat} (h : n < 262144) : n < maxC := h
/-- What Add makes of the clauses. -/
def AddSpec (zs : List Int) (ls ls' : List (List Int)) (bad bad' full full' : Bool) : Prop :=
  (Bad zs ∧ ls' = ls ∧ full' = full ∧ bad' = (bad || !zs.all litB)) ∨
  ∃ f, Good zs f ∧ bad' = bad ∧ ((maxC ≤ ls.length ∧ ls' = ls ∧ full' = true) ∨ (ls.length < maxC ∧ ls' = ls ++ [f] ∧ full' = full))

def AddPost (w : World) (base B : Nat) (v : Value) (zs : List Int) (ls : List (List Int)) (bad full : Bool) (e : Ending) (w' : World) : Prop :=
  e = .returned (.tuple #[]) ∧ ∃ v' vs' ls' bad' full', Bld w' base B v' vs' ls' bad' full' ∧ AddSpec zs ls ls' bad bad' full full' ∧ Touch w w' (fun b => b = B ∨ v.ownBlock = some b) ∧ (v'.ownBlock = v.ownBlock ∨ ∃ g, v'.ownBlock = some g ∧ w.heap.size ≤ g)

set_option maxRecDepth 100000 in
set_option maxHeartbeats 1600000 in
theorem add_any (w : World) (base B : Nat) (v : Value) (vs : List Value) (ls : List (List Int)) (bad full : Bool) (h : Bld w base B v vs ls bad full) (hbase : base ≤ w.heap.size) (a : Value) (ba : Nat) (zs : List Int) (hr : Row w ba a zs) (hl : zs.length ≤ 100000) :
    Calls Try.prog 15 #[.pointer (some ⟨B, 0, none⟩), a] w (AddPost w base B v zs ls bad full) := by
  have HB := Lib.hid h
  have HR := Lib.hid hr
  have HL := Lib.hid hl
  clear h hr hl
  go_enter Try.func15, Try.ntmps15
  go_wp2_with fail
  refine (form_any _ _ _ _ HR.out HL.out).mono ?_
  rintro e w1 ⟨hb1, hres⟩
  have HB1 := Lib.hid hb1
  have HBL := Lib.hid (HB.out.below hb1)
  clear hb1
  rcases hres with ⟨rfl, hbad⟩ | ⟨u, f, rfl, hgood, hru⟩
  · have HBAD := Lib.hid hbad
    clear hbad
    have c1 := cells_get HBL.out.head 1 (v := .bool bad) rfl
    have f1 := cells_free HBL.out.head 1
    cases bad with
    | true =>
      go_wp2
      go_end0
      exact ⟨rfl, v, vs, ls, true, full, HBL.out.setBad true, .inl ⟨HBAD.out, rfl, rfl, rfl⟩, (Touch.of_below HB1.out).set B 1 _ (.inl rfl), .inl rfl⟩
    | false =>
      go_wp2_with fail
      refine (allLiterals_any _ _ _ _ (HR.out.below HB1.out)).mono ?_
      rintro e w2 ⟨rfl, q, rfl⟩
      go_wp2
      go_end0
      exact ⟨rfl, v, vs, ls, _, full, (HBL.out.below (below_draws (Below.refl _ _) q)).setBad _, .inl ⟨HBAD.out, rfl, rfl, by simp⟩, ((Touch.of_below HB1.out).drewN q).set B 1 _ (.inl rfl), .inl rfl⟩
  · obtain ⟨A1, L1, c1, rfl, hL1, _, _, _⟩ := hru.open'
    have HG := Lib.hid hgood
    have HRU := Lib.hid hru
    clear hgood hru hL1
    obtain ⟨n, hn⟩ : ∃ n, vs.length = n := ⟨_, rfl⟩
    obtain ⟨A, cp, hv⟩ : ∃ A cp, v = .slice A n cp := by
      rcases own_len HB.out.own with ⟨e, h0⟩ | ⟨g, cap, e⟩
      · exact ⟨none, 0, by rw [← hn, h0]; exact e⟩
      · exact ⟨_, _, by rw [← hn]; exact e⟩
    subst hv
    have HN := Lib.hid hn
    have hn2 : n ≤ 262144 := by rw [← hn]; exact HB.out.few
    clear hn
    have c0 := cells_get HBL.out.head 0 (v := .slice A n cp) rfl
    by_cases hfull : 262144 ≤ n
    · have f2 := cells_free HBL.out.head 2
      have c2 := cells_get HBL.out.head 2 (v := .bool full) rfl
      have hx : 262144 ≤ ls.length := by have e1 := HB.out.rows.1; have e2 := HN.out; omega
      have HX := Lib.hid (maxC_le hx)
      have g1 : (262144 : Int) ≤ (n : Int) := by omega
      clear hfull hn2 hx
      go_wp2
      go_end0
      exact ⟨rfl, _, vs, ls, bad, true, HBL.out.setFull true, .inr ⟨f, HG.out, rfl, .inl ⟨HX.out, rfl, rfl⟩⟩, (Touch.of_below HB1.out).set B 2 _ (.inl rfl), .inl rfl⟩
    · have f0 := cells_free HBL.out.head 0
      have lB := lt_of_heap HBL.out.head
      have HS1 := Lib.hid (show n ≤ 400000 by omega)
      have hs2 : base ≤ (w1.alloc (.cells #[.slice A1 L1 c1] 22)).heap.size := by have := HB1.out.size; simp; omega
      have hapB := own_apart HBL.out.own HBL.out.head (by decide)
      have HHd := Lib.hid (heap_below HBL.out.head ((Below.refl _ _).alloc (Nat.le_refl _) (.cells #[.slice A1 L1 c1] 22)))
      have hown : w1.ownsRow base 22 1 (.slice A n cp) n vs := by have := HBL.out.own; rwa [HN.out] at this
      have HO := Lib.hid hown
      have hx : ls.length < 262144 := by have e1 := HB.out.rows.1; have e2 := HN.out; omega
      have HX := Lib.hid (maxC_lt hx)
      have g1 : decide ((262144 : Int) ≤ (n : Int)) = false := decide_eq_false (by omega)
      have HN4 := Lib.hid (show n < 262144 by omega)
      clear hown hx hfull hn2
      go_wp2_with (at_builtin; refine app_slice (W := w1.alloc (.cells #[.slice A1 L1 c1] 22)) (base := base) (xs := vs) (.tmp 17) (.tmp 19) rfl rfl rfl (HO.out.alloc _) rfl (heap_alloc_new w1 _) HS1.out hs2 ?_; intro gg cap w3 hown3 hgrow3 hat3 hlt3; have h3 := heap_grown HHd.out hgrow3 (Ne.symm hapB); have d0 := cells_get h3 0 (v := .slice A n cp) rfl; have e0 := cells_free h3 0; have l3 := lt_of_heap h3; have HO3 := Lib.hid hown3; have HT := Lib.hid hgrow3; have HAT := Lib.hid hat3; clear h3 hown3 hgrow3 hat3 c0 f0 lB)
      go_end0
      have hlast := HBL.out.grow (w0 := w) (u := .slice A1 L1 c1) (f := f) HN.out.symm HN4.out (HRU.out.base (by have := HB1.out.size; omega)) (fun hne b hb => (HRU.out.block hne b hb).1) (lt_of_heap HB.out.head) (fun b hb => (HB.out.own.lt b hb).2) HO3.out HT.out HAT.out
      refine ⟨rfl, _, vs ++ [.slice A1 L1 c1], ls ++ [f], bad, full, hlast, .inr ⟨f, HG.out, rfl, .inr ⟨HX.out, rfl, rfl⟩⟩, ?_, ?_⟩
      · exact (((Touch.of_below HB1.out).alloc _).trans (Touch.of_grown (S := fun b => b = B ∨ (Value.slice A n cp).ownBlock = some b) HT.out (fun i e => .inr e)) (fun _ _ h => h)).set B 0 _ (.inl rfl)
      · rcases HAT.out with e | e
        · exact .inl (by rw [e]; rfl)
        · exact .inr ⟨gg, rfl, by have := HB1.out.size; simp at e; omega⟩

end Go.Proofs.Ytiomocmceccmbaa.Cn
