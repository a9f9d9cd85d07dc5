/- A step of a builder with room: what it keeps; Add, for any numbers. -/
import Derived.Test.YtiomocmceccmbaaCnJoin2
namespace Go.Proofs.Ytiomocmceccmbaa.Cn
open Go.RowKit

theorem RowsOf.keep {w w' : World} {base : Nat} {F G S : Nat → Prop} {vs : List Value} {ls : List (List Int)} (hF : RowsOf w base F vs ls) (hG : RowsOf w base G vs ls) (ht : Touch w w' S) (hS : ∀ b, S b → F b) : RowsOf w' base G vs ls := by
  have h := hF.touch ht hS
  exact ⟨h.1, fun j u z hu hz => ⟨(h.2 j u z hu hz).1, (hG.2 j u z hu hz).2⟩⟩

/-- From a builder at one world to the builder at a later one. -/
structure Step (w : World) (v : Value) (vs : List Value) (ls : List (List Int)) (w' : World) (base B : Nat) (v' : Value) (vs' : List Value) (ls' : List (List Int)) (bad' : Bool) : Prop where
  bld : Bld w' base B v' vs' ls' bad' false
  touch : Touch w w' (fun b => b = B ∨ v.ownBlock = some b)
  own : v'.ownBlock = v.ownBlock ∨ ∃ g, v'.ownBlock = some g ∧ w.heap.size ≤ g
  frame : ∀ G : Nat → Prop, (∀ b, G b → b < w.heap.size) → RowsOf w base G vs ls → RowsOf w' base G vs' ls'

theorem Step.of_below {w w' : World} {base B : Nat} {v : Value} {vs : List Value} {ls : List (List Int)} {bad : Bool} (h : Bld w base B v vs ls bad false) (hb : Below w.heap.size w w') : Step w v vs ls w' base B v vs ls bad :=
  ⟨h.below hb, Touch.of_below hb, .inl rfl, fun _ _ hr => hr.below hb⟩

theorem Step.trans {w w1 w2 : World} {base B : Nat} {v v1 v2 : Value} {vs vs1 vs2 : List Value} {ls ls1 ls2 : List (List Int)} {bad1 bad2 : Bool} (h : Step w v vs ls w1 base B v1 vs1 ls1 bad1) (k : Step w1 v1 vs1 ls1 w2 base B v2 vs2 ls2 bad2) : Step w v vs ls w2 base B v2 vs2 ls2 bad2 := by
  refine ⟨k.bld, h.touch.trans k.touch (fun i hi hh => ?_), ?_, fun G hG hr => k.frame G (fun b hb => Nat.lt_of_lt_of_le (hG b hb) h.touch.size) (h.frame G hG hr)⟩
  · rcases hh with hh | hh
    · exact .inl hh
    · rcases h.own with e | ⟨g, e, hg⟩
      · exact .inr (e ▸ hh)
      · rw [e] at hh; injection hh with hh; subst hh; omega
  · rcases k.own with e | ⟨g, e, hg⟩
    · rcases h.own with e2 | ⟨g, e2, hg⟩
      · exact .inl (e.trans e2)
      · exact .inr ⟨g, e.trans e2, hg⟩
    · exact .inr ⟨g, e, Nat.le_trans h.touch.size hg⟩

/-- A row beside a builder. -/
structure Beside (w : World) (B : Nat) (v a : Value) (ba : Nat) (zs : List Int) : Prop where
  row : Row w ba a zs
  apart : zs ≠ [] → ∀ b, a.ownBlock = some b → ¬ (b = B ∨ v.ownBlock = some b)

theorem Beside.step {w w' : World} {base B ba : Nat} {v v' a : Value} {zs : List Int} {vs vs' : List Value} {ls ls' : List (List Int)} {bad' : Bool} (h : Beside w B v a ba zs) (k : Step w v vs ls w' base B v' vs' ls' bad') : Beside w' B v' a ba zs := by
  refine ⟨h.row.touchs k.touch h.apart, fun hne b hb hh => ?_⟩
  rcases hh with hh | hh
  · exact h.apart hne b hb (.inl hh)
  · rcases k.own with e | ⟨g, e, hg⟩
    · exact h.apart hne b hb (.inr (e ▸ hh))
    · rw [e] at hh; injection hh with hh; subst hh
      have := (h.row.block hne _ hb).2; omega
theorem Beside.below {w w' : World} {B ba : Nat} {v a : Value} {zs : List Int} (h : Beside w B v a ba zs) (hb : Below w.heap.size w w') : Beside w' B v a ba zs := ⟨h.row.below hb, h.apart⟩

def OpPost (w : World) (base B : Nat) (v : Value) (vs : List Value) (ls : List (List Int)) (bad : Bool) (P : List (List Int)) (k : Nat) (e : Ending) (w' : World) : Prop :=
  e = .returned (.tuple #[]) ∧ ∃ v' vs' ls' bad', Adds P ls bad ls' bad' ∧ Step w v vs ls w' base B v' vs' ls' bad' ∧ ls'.length ≤ ls.length + k

set_option maxRecDepth 100000 in
set_option maxHeartbeats 1600000 in
theorem add_op (w : World) (base B : Nat) (v : Value) (vs : List Value) (ls : List (List Int)) (bad : Bool) (h : Bld w base B v vs ls bad false) (hbase : base ≤ w.heap.size) (a : Value) (ba : Nat) (zs : List Int) (hr : Row w ba a zs) (hl : zs.length ≤ 100000) (hlm : ls.length < maxC) :
    Calls Try.prog 15 #[.pointer (some ⟨B, 0, none⟩), a] w (OpPost w base B v vs ls bad [zs] 1) := by
  have HB := Lib.hid h
  have HR := Lib.hid hr
  have HL := Lib.hid hl
  have HM := Lib.hid hlm
  clear h hr hl hlm
  go_enter Try.func15, Try.ntmps15
  go_wp2_with fail
  refine (form_any _ _ _ _ HR.out HL.out).mono ?_
  rintro e w1 ⟨hb1, hres⟩
  have HB1 := Lib.hid hb1
  have HBL := Lib.hid (HB.out.below hb1)
  clear hb1
  rcases hres with ⟨rfl, hbad⟩ | ⟨u, f, rfl, hgood, hru⟩
  · have HBAD := Lib.hid hbad
    clear hbad
    have c1 := cells_get HBL.out.head 1 (v := .bool bad) rfl
    have f1 := cells_free HBL.out.head 1
    cases bad with
    | true =>
      go_wp2
      go_end0
      have ht := (Touch.of_below (S := fun b => b = B ∨ v.ownBlock = some b) HB1.out).set B 1 (.bool true) (.inl rfl)
      exact ⟨rfl, v, vs, ls, true, ⟨ls, true, .inl ⟨HBAD.out, rfl, rfl⟩, rfl, rfl⟩, ⟨HBL.out.setBad true, ht, .inl rfl, fun G _ hrG => HB.out.rows.keep hrG ht (fun _ h => h)⟩, by omega⟩
    | false =>
      go_wp2_with fail
      refine (allLiterals_any _ _ _ _ (HR.out.below HB1.out)).mono ?_
      rintro e w2 ⟨rfl, q, rfl⟩
      go_wp2
      go_end0
      have ht := ((Touch.of_below (S := fun b => b = B ∨ v.ownBlock = some b) HB1.out).drewN q).set B 1 (.bool !zs.all litB) (.inl rfl)
      exact ⟨rfl, v, vs, ls, _, ⟨ls, _, .inl ⟨HBAD.out, rfl, rfl⟩, rfl, rfl⟩, ⟨by simpa using (HBL.out.below (below_draws (Below.refl _ _) q)).setBad (!zs.all litB), ht, .inl rfl, fun G _ hrG => HB.out.rows.keep hrG ht (fun _ h => h)⟩, by omega⟩
  · obtain ⟨A1, L1, c1, rfl, hL1, _, _, _⟩ := hru.open'
    have HG := Lib.hid hgood
    have HRU := Lib.hid hru
    clear hgood hru hL1
    obtain ⟨n, hn⟩ : ∃ n, vs.length = n := ⟨_, rfl⟩
    obtain ⟨A, cp, hv⟩ : ∃ A cp, v = .slice A n cp := by
      rcases own_len HB.out.own with ⟨e, h0⟩ | ⟨g, cap, e⟩
      · exact ⟨none, 0, by rw [← hn, h0]; exact e⟩
      · exact ⟨_, _, by rw [← hn]; exact e⟩
    subst hv
    have HN := Lib.hid hn
    have hn2 : n < 262144 := by have e1 := HB.out.rows.1; have e2 := HM.out; unfold maxC at e2; omega
    clear hn
    have c0 := cells_get HBL.out.head 0 (v := .slice A n cp) rfl
    have f0 := cells_free HBL.out.head 0
    have lB := lt_of_heap HBL.out.head
    have HS1 := Lib.hid (show n ≤ 400000 by omega)
    have hs2 : base ≤ (w1.alloc (.cells #[.slice A1 L1 c1] 22)).heap.size := by have := HB1.out.size; simp; omega
    have hapB := own_apart HBL.out.own HBL.out.head (by decide)
    have HHd := Lib.hid (heap_below HBL.out.head ((Below.refl _ _).alloc (Nat.le_refl _) (.cells #[.slice A1 L1 c1] 22)))
    have hown : w1.ownsRow base 22 1 (.slice A n cp) n vs := by have := HBL.out.own; rwa [HN.out] at this
    have HO := Lib.hid hown
    have g1 : decide ((262144 : Int) ≤ (n : Int)) = false := decide_eq_false (by omega)
    have HN4 := Lib.hid hn2
    clear hown hn2
    go_wp2_with (at_builtin; refine app_slice (W := w1.alloc (.cells #[.slice A1 L1 c1] 22)) (base := base) (xs := vs) (.tmp 17) (.tmp 19) rfl rfl rfl (HO.out.alloc _) rfl (heap_alloc_new w1 _) HS1.out hs2 ?_; intro gg cap w3 hown3 hgrow3 hat3 hlt3; have h3 := heap_grown HHd.out hgrow3 (Ne.symm hapB); have d0 := cells_get h3 0 (v := .slice A n cp) rfl; have e0 := cells_free h3 0; have l3 := lt_of_heap h3; have HO3 := Lib.hid hown3; have HT := Lib.hid hgrow3; have HAT := Lib.hid hat3; clear h3 hown3 hgrow3 hat3 c0 f0 lB)
    go_end0
    have hlast := HBL.out.grow (w0 := w) (u := .slice A1 L1 c1) (f := f) HN.out.symm HN4.out (HRU.out.base (by have := HB1.out.size; omega)) (fun hne b hb => (HRU.out.block hne b hb).1) (lt_of_heap HB.out.head) (fun b hb => (HB.out.own.lt b hb).2) HO3.out HT.out HAT.out
    have ht1 : Touch w1 (w3.setCell ⟨B, 0, none⟩ (.slice (some ⟨gg, 0, none⟩) (n + 1) cap)) (fun b => b = B ∨ (Value.slice A n cp).ownBlock = some b) := (((Touch.refl w1 (fun b => b = B ∨ (Value.slice A n cp).ownBlock = some b)).alloc _).trans (Touch.of_grown (S := fun b => b = B ∨ (Value.slice A n cp).ownBlock = some b) HT.out (fun i e => .inr e)) (fun _ _ h => h)).set B 0 _ (.inl rfl)
    refine ⟨rfl, _, vs ++ [.slice A1 L1 c1], ls ++ [f], bad, ⟨_, _, .inr ⟨f, HG.out, rfl, rfl⟩, rfl, rfl⟩, ⟨hlast, ?_, ?_, fun G hG hrG => ?_⟩, by simp⟩
    · exact (((Touch.of_below HB1.out).alloc _).trans (Touch.of_grown (S := fun b => b = B ∨ (Value.slice A n cp).ownBlock = some b) HT.out (fun i e => .inr e)) (fun _ _ h => h)).set B 0 _ (.inl rfl)
    · rcases HAT.out with e | e
      · exact .inl (by rw [e]; rfl)
      · exact .inr ⟨gg, rfl, by have := HB1.out.size; simp at e; omega⟩
    · have hr1 := HRU.out.base (base' := base) (by have := HB1.out.size; omega)
      refine ((HBL.out.rows.snoc hr1 (fun hne b hb hF => ?_)).keep ((hrG.below HB1.out).snoc hr1 (fun hne b hb hg => ?_)) ht1 (fun _ h => h))
      · have h1 := (HRU.out.block hne b hb).1
        rcases hF with e | e
        · have := lt_of_heap HB.out.head; omega
        · have := (HB.out.own.lt b e).2; omega
      · have h1 := (HRU.out.block hne b hb).1
        have := hG b hg; omega

end Go.Proofs.Ytiomocmceccmbaa.Cn
