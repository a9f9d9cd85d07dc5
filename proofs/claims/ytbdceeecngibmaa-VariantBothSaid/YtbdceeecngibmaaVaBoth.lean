/- variant.Both. -/
import Derived.Test.YtbdceeecngibmaaVaSortR
import Derived.Test.YtbdceeecngibmaaVaAll
namespace Go.Proofs.Ytbdceeecngibmaa.Va
open Go.RowKit

theorem wish_to (w : World) (u : Value) (s : List Set1) (h : Sets w u s) (b : Bool) (hb : wishB s = b) :
    Calls Try.prog 23 #[u] w fun e w' => e = .returned (.bool b) ∧ Below w.heap.size w w' := by subst hb; exact wish_is w u s h
theorem refWish_to (w : World) (u : Value) (s : List Set1) (h : Sets w u s) (b : Bool) (hb : wishB s = b) :
    Calls Try.prog 24 #[u] w fun e w' => e = .returned (.bool b) ∧ Below w.heap.size w w' := by subst hb; exact refWish_is w u s h

def outB (s : List Set1) : List Set1 := if wishB (dd s) then dd s else []
theorem outB_nil : outB [] = [] := by unfold outB; split <;> rfl
/-- What Both answers to two wishes. -/
def BothYes (a b : List Set1) (w : World) (e : Ending) (w' : World) : Prop :=
  ∃ (s : List Set1) (A : Option Addr) (L c : Nat), e = .returned (.tuple #[.slice A L c, .bool (wishB (dd s))]) ∧ (∀ z, z ∈ s ↔ z ∈ a ∨ z ∈ b) ∧ Rise s ∧ Sets w' (.slice A L c) (outB s) ∧ Below w.heap.size w w'

theorem sets_nil (w : World) : Sets w (.slice none 0 0) [] := ⟨none, 0, rfl, Nat.le_refl _, by simp [maxLen], fun h => by simp at h⟩
theorem row_sets {w : World} {blk off L c : Nat} {l : List Set1} (hL : L = l.length) (hc : L ≤ c) (hcm : c ≤ maxLen) (hb : blk < w.heap.size) (h : RowT w blk off l) (hs : ∀ x ∈ l, x.1.size ≤ maxLen ∧ x.2.size ≤ maxLen) :
    Sets w (.slice (some ⟨blk, off, none⟩) L c) l := by
  subst hL
  refine ⟨_, c, rfl, hc, hcm, fun _ => ⟨blk, off, rfl, hb, fun j hj => ?_⟩⟩
  obtain ⟨⟨h1, _⟩, h2, _⟩ := h j hj
  exact ⟨h1, h2, hs _ (nthT_mem hj)⟩
theorem ownT_row {w : World} {base : Nat} {A : Option Addr} {L c : Nat} {l : List Set1} (h : OwnT w base (.slice A L c) l) :
    L = l.length ∧ L ≤ c ∧ c ≤ maxLen ∧ (0 < L → ∃ g, A = some ⟨g, 0, none⟩ ∧ base ≤ g ∧ g < w.heap.size ∧ RowT w g 0 l) := by
  rcases h.2 with ⟨e, h0⟩ | ⟨g, cap, cur, e, hg, hh, h1, h2, _, h4⟩
  · injection e with e1 e2 e3
    subst e1 e2 e3
    exact ⟨h0.symm, Nat.le_refl _, by simp [maxLen], fun hp => by omega⟩
  · injection e with e1 e2 e3
    subst e1 e2 e3
    refine ⟨rfl, h1, h2, fun _ => ⟨g, rfl, hg, lt_of_heap hh, fun j hj => ?_⟩⟩
    have hc : ∀ i u, (cellsT l)[i]? = some u → w.cell? ⟨g, i, none⟩ = some u := by
      intro i u hu
      refine cells_get hh i ?_
      rw [← h4, List.getElem?_take] at hu
      split at hu
      · simpa using hu
      · cases hu
    obtain ⟨q1, q2⟩ := cellsT_get l j hj
    rw [Nat.zero_add]
    exact ⟨⟨hc _ _ q1, cells_free hh _⟩, hc _ _ q2, cells_free hh _⟩
theorem sets_small {w : World} {u : Value} {l : List Set1} (h : Sets w u l) : ∀ x ∈ l, x.1.size ≤ maxLen ∧ x.2.size ≤ maxLen := by
  obtain ⟨A, c, _, _, _, h3⟩ := h
  intro x hx
  obtain ⟨i, hi, rfl⟩ := List.mem_iff_getElem.1 hx
  obtain ⟨b, off, _, _, hc⟩ := h3 (by omega)
  have := (hc i hi).2.2
  rwa [nthT_lt hi] at this

theorem compactR (w : World) (blk off L c : Nat) (l : List Set1) (hL : L = l.length) (hc : L ≤ c) (hcm : c ≤ maxLen) (hrow : RowT w blk off l) :
    Calls Try.prog 46 #[.slice (some ⟨blk, off, none⟩) L c] w fun e w' => e = .returned (.slice (some ⟨blk, off, none⟩) (dd l).length c) ∧ RowT w' blk off (dd l) ∧ Touch w w' (fun i => i = blk) := by
  by_cases h2 : L < 2
  · refine (compact_short w _ L c l hL h2).mono ?_
    rintro e w' ⟨rfl, rfl⟩
    exact ⟨rfl, by rw [dd_one (by omega)]; exact hrow, Touch.refl _ _⟩
  · exact compact_long w blk off L c l hL (by omega) hc hcm hrow
theorem tuple_ret {A : Option Addr} {n c : Nat} {b b' : Bool} (h : b = b') : Ending.returned (.tuple #[.slice A n c, .bool b]) = .returned (.tuple #[.slice A n c, .bool b']) := by rw [h]

set_option maxRecDepth 100000 in
set_option maxHeartbeats 1000000 in
theorem both_no (w : World) (v u : Value) (a b : List Set1) (ha : Sets w v a) (hb : Sets w u b) (h : (wishB a && wishB b) = false) :
    Calls Try.prog 27 #[v, u] w fun e w' => e = .returned (.tuple #[.slice none 0 0, .bool false]) ∧ Below w.heap.size w w' := by
  have HA := Lib.hid ha
  have HB := Lib.hid hb
  obtain ⟨A, L, c, rfl, h2⟩ := ha.open'
  obtain ⟨A', L', c', rfl, h2'⟩ := hb.open'
  clear ha hb h2 h2'
  cases hwa : wishB a with
  | false =>
    have HW := Lib.hid hwa
    clear hwa h
    go_enter Try.func27, Try.ntmps27
    go_wp2_with fail
    refine (wish_to _ _ a HA.out false HW.out).mono ?_
    rintro e w1 ⟨rfl, hb1⟩
    have HB1 := Lib.hid hb1
    clear hb1
    go_wp2
    go_ret2
    exact ⟨rfl, HB1.out⟩
  | true =>
    have hwb : wishB b = false := by rw [hwa] at h; simpa using h
    have HW := Lib.hid hwa
    have HWb := Lib.hid hwb
    clear hwa h hwb
    go_enter Try.func27, Try.ntmps27
    go_wp2_with fail
    refine (wish_to _ _ a HA.out true HW.out).mono ?_
    rintro e w1 ⟨rfl, hb1⟩
    have HB1 := Lib.hid hb1
    clear hb1
    go_wp2_with fail
    refine (wish_to _ _ b (HB.out.below HB1.out (Nat.le_refl _)) false HWb.out).mono ?_
    rintro e w2 ⟨rfl, hb2⟩
    have HB2 := Lib.hid (HB1.out.trans (hb2.mono HB1.out.size))
    clear hb2
    go_wp2
    go_ret2
    exact ⟨rfl, HB2.out⟩

set_option maxRecDepth 100000 in
set_option maxHeartbeats 1000000 in
theorem both_yes (w : World) (v u : Value) (a b : List Set1) (ha : Sets w v a) (hb : Sets w u b) (hwa : wishB a = true) (hwb : wishB b = true) (hl : a.length + b.length ≤ 1000) :
    Calls Try.prog 27 #[v, u] w (BothYes a b w) := by
  have HA := Lib.hid ha
  have HB := Lib.hid hb
  have HWA := Lib.hid hwa
  have HWB := Lib.hid hwb
  have HSM := Lib.hid (show ∀ x ∈ a ++ b, x.1.size ≤ maxLen ∧ x.2.size ≤ maxLen from fun x hx => (List.mem_append.1 hx).elim (sets_small ha x) (sets_small hb x))
  have HLL := Lib.hid (show (a ++ b).length ≤ 1000 by rw [List.length_append]; exact hl)
  obtain ⟨A, L, c, rfl, h2⟩ := ha.open'
  obtain ⟨A', L', c', rfl, h2'⟩ := hb.open'
  clear ha hb h2 h2' hwa hwb hl
  go_enter Try.func27, Try.ntmps27
  go_wp2_with fail
  refine (wish_to _ _ a HA.out true HWA.out).mono ?_
  rintro e w1 ⟨rfl, hb1⟩
  have HB1 := Lib.hid hb1
  clear hb1
  go_wp2_with fail
  refine (wish_to _ _ b (HB.out.below HB1.out (Nat.le_refl _)) true HWB.out).mono ?_
  rintro e w2 ⟨rfl, hb2⟩
  have HB2 := Lib.hid (HB1.out.trans (hb2.mono HB1.out.size))
  clear hb2
  have hX := heap_alloc_new w2 (.cells #[.slice A L c, .slice A' L' c'] 25)
  have hBX : Below w.heap.size w (w2.alloc (.cells #[.slice A L c, .slice A' L' c'] 25)) := HB2.out.alloc HB2.out.size _
  have hcc := concat_two _ _ a b _ _ hX (HA.out.below hBX (Nat.le_refl _)) (HB.out.below hBX (Nat.le_refl _)) (Nat.le_trans HLL.out (by omega))
  have HBX := Lib.hid hBX
  have HCC := Lib.hid hcc
  clear hX hBX hcc
  go_wp2_with fail
  refine HCC.out.mono ?_
  rintro e w3 ⟨A3, L3, c3, rfl, hown, hb3⟩
  have HB3 := Lib.hid (HBX.out.trans (hb3.mono HBX.out.size))
  have hbs := HBX.out.size
  obtain ⟨hL3, hc3, hm3, hrow⟩ := ownT_row hown
  have HL3 := Lib.hid hL3
  have HR3 := Lib.hid hrow
  clear HCC hown hb3 hL3 hrow
  by_cases h0 : L3 = 0
  · subst h0
    have hnil : a ++ b = [] := List.eq_nil_of_length_eq_zero HL3.out.symm
    have HN := Lib.hid hnil
    clear hnil
    go_wp2_with fail
    refine (sortR_none w3 A3 c3).mono ?_
    rintro e w4 ⟨rfl, rfl⟩
    go_wp2_with fail
    refine (compact_short w4 A3 0 c3 [] rfl (by omega)).mono ?_
    rintro e w5 ⟨rfl, rfl⟩
    go_wp2_with fail
    refine (wish_to _ _ [] ⟨A3, c3, rfl, Nat.zero_le _, hm3, fun h => by simp at h⟩ true rfl).mono ?_
    rintro e w6 ⟨rfl, hb6⟩
    have HB6 := Lib.hid (HB3.out.trans (hb6.mono HB3.out.size))
    clear hb6
    go_wp2
    go_ret2
    exact ⟨[], _, _, _, tuple_ret rfl, fun z => by rw [← List.mem_append, HN.out], fun i x y h => by simp at h, by rw [outB_nil]; exact ⟨_, _, rfl, Nat.zero_le _, hm3, fun h => by simp at h⟩, HB6.out⟩
  · obtain ⟨g, rfl, hg1, hg2, hr⟩ := HR3.out (by omega)
    have HR := Lib.hid hr
    clear hr
    go_wp2_with fail
    refine (sortR_any w3 g 0 c3 L3 (a ++ b) HL3.out hg2 (Nat.lt_of_le_of_lt HLL.out (by omega)) HR.out).mono ?_
    rintro e w4 ⟨rfl, s, hsl, hsm, hrise, hrow4, ht4⟩
    have HSL := Lib.hid hsl
    have HSME := Lib.hid hsm
    have HRI := Lib.hid hrise
    have HR4 := Lib.hid hrow4
    have HT4 := Lib.hid ht4
    clear hsl hsm hrise hrow4 ht4
    go_wp2_with fail
    refine (compactR w4 g 0 L3 c3 s (by rw [HSL.out]; exact HL3.out) hc3 hm3 HR4.out).mono ?_
    rintro e w5 ⟨rfl, hrow5, ht5⟩
    have ht : Touch w3 w5 (fun i => i = g) := HT4.out.trans ht5 (fun _ _ h => h)
    have hb5 : Below w.heap.size w w5 := ht.belows HB3.out (Nat.le_refl _) (fun i h => by omega)
    have hle := dd_len_le s
    have hddm : ∀ x ∈ dd s, x.1.size ≤ maxLen ∧ x.2.size ≤ maxLen := fun x hx => HSM.out x ((HSME.out x).1 ((dd_mem s x).1 hx))
    have hsets := row_sets (w := w5) (blk := g) (off := 0) (L := (dd s).length) (c := c3) rfl (by have := HSL.out; have := HL3.out; omega) hm3 (Nat.lt_of_lt_of_le hg2 ht.size) hrow5 hddm
    have HB5 := Lib.hid hb5
    have HS5 := Lib.hid hsets
    have HSZ := Lib.hid (show (dd s).length ≤ 1000 by have := HSL.out; have := HLL.out; omega)
    clear ht hb5 hle hddm hsets hrow5 ht5
    generalize hn : (dd s).length = n at HS5
    cases hw : wishB (dd s) with
    | true =>
      have HW := Lib.hid hw
      clear hw
      go_wp2_with fail
      refine (wish_to _ _ _ HS5.out true HW.out).mono ?_
      rintro e w6 ⟨rfl, hb6⟩
      have HB6 := Lib.hid (HB5.out.trans (hb6.mono HB5.out.size))
      have HS6 := Lib.hid (HS5.out.below hb6 (Nat.le_refl _))
      clear hb6 hn
      go_wp2
      go_ret2
      exact ⟨s, _, _, _, tuple_ret HW.out.symm, fun z => by rw [HSME.out, List.mem_append], HRI.out, by unfold outB; rw [if_pos HW.out]; exact HS6.out, HB6.out⟩
    | false =>
      have HW := Lib.hid hw
      clear hw
      go_wp2_with fail
      refine (wish_to _ _ _ HS5.out false HW.out).mono ?_
      rintro e w6 ⟨rfl, hb6⟩
      have HB6 := Lib.hid (HB5.out.trans (hb6.mono HB5.out.size))
      clear hb6 hn
      go_wp2
      go_ret2
      exact ⟨s, _, _, _, tuple_ret HW.out.symm, fun z => by rw [HSME.out, List.mem_append], HRI.out, by unfold outB; rw [if_neg (by rw [HW.out]; decide)]; exact sets_nil _, HB6.out⟩
end Go.Proofs.Ytbdceeecngibmaa.Va
