/- What holds in a model: the program's way and the document's. -/
import Derived.Test.YtiomocmceccmbaaCnForms
namespace Go.Proofs.Ytiomocmceccmbaa.Cn
open Go.RowKit

def bget (l : List Bool) (i : Nat) : Bool := l.getD i false
theorem bget_get {l : List Bool} {i : Nat} (h : i < l.length) : l[i]? = some (bget l i) := by unfold bget; simp [List.getD_eq_getElem?_getD, h]

/-- A slice of truth values that came in. -/
def BRow (w : World) (A : Option Addr) (len cap : Nat) (bs : List Bool) : Prop :=
  bs.length = len ∧ len ≤ cap ∧ cap ≤ maxLen ∧ (len = 0 ∨ ∃ b off, A = some ⟨b, off, none⟩ ∧ b < w.heap.size ∧ ∀ j, j < len → w.cell? ⟨b, off + j, none⟩ = some (.bool (bget bs j)))
theorem BRow.below {w w' : World} {B len cap : Nat} {A : Option Addr} {bs : List Bool} (h : BRow w A len cap bs) (hb : Below B w w') (hB : w.heap.size ≤ B) : BRow w' A len cap bs :=
  ⟨h.1, h.2.1, h.2.2.1, h.2.2.2.imp id fun ⟨b, off, ha, hlt, hc⟩ => ⟨b, off, ha, Nat.lt_of_lt_of_le hlt hb.size, fun j hj => (hb.cell (p := ⟨b, off + j, none⟩) (by simp; omega)).trans (hc j hj)⟩⟩

/-- Is a literal so? -/
def atomB (x : Int) (bs : List Bool) : Bool := decide (x.natAbs ≤ bs.length) && bget bs (x.natAbs - 1)
def soB (x : Int) (bs : List Bool) : Bool := litB x && (atomB x bs == decide (0 < x))
def holdsB (ls : List (List Int)) (bs : List Bool) : Bool := ls.all fun z => z.any fun x => soB x bs

theorem ret_bool {a b : Bool} (h : a = b) : Ending.returned (.bool a) = .returned (.bool b) := by rw [h]

theorem none_any (x : Int) (h1 : -9223372036854775808 ≤ x) (h2 : x ≤ 9223372036854775807) (w : World) : Calls Try.prog 20 #[.int .i64 x] w fun e w' => e = .returned (.bool (!litB x)) ∧ w = w' := by
  obtain ⟨r, hr⟩ : ∃ r, (!litB x) = r := ⟨_, rfl⟩
  rw [hr]
  unfold litB IsLit at hr
  by_cases h0 : x = 0
  · subst h0
    simp at hr
    subst hr
    go_enter Try.func20, Try.ntmps20
    go_wp2
    go_ret
    exact ⟨rfl, rfl⟩
  · have g0 : (x == 0) = false := by simpa using h0
    by_cases h3 : x = -9223372036854775808
    · subst h3
      simp at hr
      subst hr
      go_enter Try.func20, Try.ntmps20
      go_wp2
      go_ret
      exact ⟨by simp [wrap64], rfl⟩
    · simp [h0, h3] at hr
      subst hr
      have h1' : -9223372036854775807 ≤ x := by omega
      have g1 : (x == -x) = false := by simp; omega
      go_enter Try.func20, Try.ntmps20
      go_wp2
      go_ret
      exact ⟨rfl, rfl⟩

theorem atom_any (x : Int) (h1 : -9223372036854775807 ≤ x) (h2 : x ≤ 9223372036854775807) (w : World) : Calls Try.prog 36 #[.int .i64 x] w fun e w' => e = .returned (.int .i64 (x.natAbs : Int)) ∧ w = w' := by
  obtain ⟨a, ha⟩ : ∃ a : Int, (x.natAbs : Int) = a := ⟨_, rfl⟩
  rw [ha]
  by_cases h : x < 0
  · have e : a = -x := by omega
    subst e
    clear ha
    go_enter Try.func36, Try.ntmps36
    go_wp2
    go_ret
    exact ⟨rfl, rfl⟩
  · have e : a = x := by omega
    subst e
    clear ha
    go_enter Try.func36, Try.ntmps36
    go_wp2
    go_ret
    exact ⟨rfl, rfl⟩

/-- The atom's cell. -/
theorem BRow.atom {w : World} {A : Option Addr} {len cap : Nat} {bs : List Bool} (h : BRow w A len cap bs) {m : Nat} (hm : m < len) : ∃ b off, A = some ⟨b, off, none⟩ ∧ w.cell? ⟨b, off + m, none⟩ = some (.bool (bget bs m)) := by
  rcases h.2.2.2 with e | ⟨b, off, ha, _, hc⟩
  · omega
  · exact ⟨b, off, ha, hc m hm⟩

set_option maxHeartbeats 1600000 in
theorem isSo_any (w : World) (x : Int) (A : Option Addr) (len cap : Nat) (bs : List Bool) (h1 : -9223372036854775808 ≤ x) (h2 : x ≤ 9223372036854775807) (h : BRow w A len cap bs) :
    Calls Try.prog 39 #[.int .i64 x, .slice A len cap] w fun e w' => e = .returned (.bool (soB x bs)) ∧ w = w' := by
  obtain ⟨r, hr⟩ : ∃ r, soB x bs = r := ⟨_, rfl⟩
  rw [hr]
  have H := Lib.hid h
  obtain ⟨hbl, l1, l2, _⟩ := h
  unfold maxLen at l2
  unfold soB at hr
  cases hl : litB x with
  | false =>
    rw [hl] at hr
    simp at hr
    subst hr
    have HL := Lib.hid hl
    clear hl hbl
    go_enter Try.func39, Try.ntmps39
    go_wp2_with fail
    refine (isLiteral_any x w).mono ?_
    rintro e w' ⟨rfl, rfl⟩
    rw [HL.out]
    go_wp2
    go_ret
    exact ⟨rfl, rfl⟩
  | true =>
    rw [hl, Bool.true_and] at hr
    have hlit : IsLit x := by simpa [litB] using hl
    have h1' : -9223372036854775807 ≤ x := by have := hlit.2; omega
    obtain ⟨m, hm⟩ : ∃ m, x.natAbs = m + 1 := ⟨x.natAbs - 1, by have := hlit.1; omega⟩
    have hx0 := hlit.1
    unfold atomB at hr
    rw [hm, hbl, Nat.add_sub_cancel] at hr
    have HL := Lib.hid hl
    have HM := Lib.hid hm
    have HR := Lib.hid hr
    clear hl hr hbl hlit
    have hmx : m < 9223372036854775807 := by omega
    go_enter Try.func39, Try.ntmps39
    go_wp2_with fail
    refine (isLiteral_any x w).mono ?_
    rintro e w' ⟨rfl, rfl⟩
    rw [HL.out]
    go_wp2_with fail
    refine (atomOf_any x h1' h2 w).mono ?_
    rintro e w' ⟨rfl, rfl⟩
    rw [HM.out]
    clear hm
    by_cases hml : m < len
    · obtain ⟨b, off, rfl, hc⟩ := H.out.atom hml
      obtain ⟨y, hy⟩ : ∃ y, bget bs m = y := ⟨_, rfl⟩
      rw [hy] at hc
      have HY := Lib.hid hy
      clear hy
      have hrr : r = (y == decide (0 < x)) := by have := HR.out; rw [HY.out, decide_eq_true (by omega)] at this; simpa using this.symm
      have HRR := Lib.hid hrr
      clear hrr
      by_cases hx : 0 < x
      · go_wp2
        go_ret
        exact ⟨ret_bool (by first | exact HRR.out.symm | (rw [HRR.out]; have hd : decide (0 < x) = true := decide_eq_true (by omega); first | rfl | (rw [hd]; first | rfl | (cases y <;> rfl)))), rfl⟩
      · go_wp2
        go_ret
        exact ⟨ret_bool (by first | exact HRR.out.symm | (rw [HRR.out]; have hd : decide (0 < x) = false := decide_eq_false (by omega); first | rfl | (rw [hd]; first | rfl | (cases y <;> rfl)))), rfl⟩
    · have hrr : r = (false == decide (0 < x)) := by have := HR.out; rw [decide_eq_false (by omega)] at this; simpa using this.symm
      have HRR := Lib.hid hrr
      clear hrr
      by_cases hx : 0 < x
      · go_wp2
        go_ret
        exact ⟨ret_bool (by first | exact HRR.out.symm | (rw [HRR.out]; have hd : decide (0 < x) = true := decide_eq_true (by omega); first | rfl | (rw [hd]; rfl))), rfl⟩
      · go_wp2
        go_ret
        exact ⟨ret_bool (by first | exact HRR.out.symm | (rw [HRR.out]; have hd : decide (0 < x) = false := decide_eq_false (by omega); first | rfl | (rw [hd]; rfl))), rfl⟩

set_option maxHeartbeats 1600000 in
theorem so_any (w : World) (x : Int) (A : Option Addr) (len cap : Nat) (bs : List Bool) (h1 : -9223372036854775808 ≤ x) (h2 : x ≤ 9223372036854775807) (h : BRow w A len cap bs) :
    Calls Try.prog 40 #[.int .i64 x, .slice A len cap] w fun e w' => e = .returned (.bool (soB x bs)) ∧ w = w' := by
  obtain ⟨r, hr⟩ : ∃ r, soB x bs = r := ⟨_, rfl⟩
  rw [hr]
  have H := Lib.hid h
  obtain ⟨hbl, l1, l2, _⟩ := h
  unfold maxLen at l2
  unfold soB at hr
  cases hl : litB x with
  | false =>
    rw [hl] at hr
    simp at hr
    subst hr
    have HL := Lib.hid hl
    clear hl hbl
    go_enter Try.func40, Try.ntmps40
    go_wp2_with fail
    refine (none_any x h1 h2 w).mono ?_
    rintro e w' ⟨rfl, rfl⟩
    rw [HL.out]
    go_wp2
    go_ret
    exact ⟨rfl, rfl⟩
  | true =>
    rw [hl, Bool.true_and] at hr
    have hlit : IsLit x := by simpa [litB] using hl
    have h1' : -9223372036854775807 ≤ x := by have := hlit.2; omega
    obtain ⟨m, hm⟩ : ∃ m, x.natAbs = m + 1 := ⟨x.natAbs - 1, by have := hlit.1; omega⟩
    have hx0 := hlit.1
    unfold atomB at hr
    rw [hm, hbl, Nat.add_sub_cancel] at hr
    have HL := Lib.hid hl
    have HM := Lib.hid hm
    have HR := Lib.hid hr
    clear hl hr hbl hlit
    have hmx : m < 9223372036854775807 := by omega
    go_enter Try.func40, Try.ntmps40
    go_wp2_with fail
    refine (none_any x h1 h2 w).mono ?_
    rintro e w' ⟨rfl, rfl⟩
    rw [HL.out]
    go_wp2_with fail
    refine (atom_any x h1' h2 w).mono ?_
    rintro e w' ⟨rfl, rfl⟩
    rw [HM.out]
    clear hm
    by_cases hml : m < len
    · obtain ⟨b, off, rfl, hc⟩ := H.out.atom hml
      obtain ⟨y, hy⟩ : ∃ y, bget bs m = y := ⟨_, rfl⟩
      rw [hy] at hc
      have HY := Lib.hid hy
      clear hy
      have hrr : r = (y == decide (0 < x)) := by have := HR.out; rw [HY.out, decide_eq_true (by omega)] at this; simpa using this.symm
      have HRR := Lib.hid hrr
      clear hrr
      by_cases hx : 0 < x
      all_goals
        go_wp2_with fail
        refine (atom_any x h1' h2 w).mono ?_
        rintro e w' ⟨rfl, rfl⟩
        rw [HM.out]
        go_wp2
        go_ret
      · exact ⟨ret_bool (by first | exact HRR.out.symm | (rw [HRR.out]; have hd : decide (0 < x) = true := decide_eq_true (by omega); first | rfl | (rw [hd]; first | rfl | (cases y <;> rfl)))), rfl⟩
      · exact ⟨ret_bool (by first | exact HRR.out.symm | (rw [HRR.out]; have hd : decide (0 < x) = false := decide_eq_false (by omega); first | rfl | (rw [hd]; first | rfl | (cases y <;> rfl)))), rfl⟩
    · have hrr : r = (false == decide (0 < x)) := by have := HR.out; rw [decide_eq_false (by omega)] at this; simpa using this.symm
      have HRR := Lib.hid hrr
      clear hrr
      by_cases hx : 0 < x
      · go_wp2
        go_ret
        exact ⟨ret_bool (by first | exact HRR.out.symm | (rw [HRR.out]; have hd : decide (0 < x) = true := decide_eq_true (by omega); first | rfl | (rw [hd]; rfl))), rfl⟩
      · go_wp2
        go_ret
        exact ⟨ret_bool (by first | exact HRR.out.symm | (rw [HRR.out]; have hd : decide (0 < x) = false := decide_eq_false (by omega); first | rfl | (rw [hd]; rfl))), rfl⟩

end Go.Proofs.Ytiomocmceccmbaa.Cn
