/- The small functions under Form: what is a literal, its atom, how two stand to each other. -/
import Derived.Test.YtiomocmceccmbaaRows
import Derived.Test.YtiomocmceccmbaaMem
import Derived.Test.YtiomocmceccmbaaCnMath
import Derived.Sort.Grow
namespace Go.Proofs.Ytiomocmceccmbaa.Cn
open Go.RowKit

theorem bounds_i64' {n : Int} (h : (Lit.int .i64 n).wf = true) : -9223372036854775808 ≤ n ∧ n ≤ 9223372036854775807 := by
  simp [Lit.wf, IntKind.min, IntKind.max, IntKind.bits, IntKind.signed] at h; omega

theorem ret_int {k : IntKind} {a b : Int} (h : a = b) : Ending.returned (.int k a) = .returned (.int k b) := by rw [h]

def litB (x : Int) : Bool := decide (IsLit x)

theorem isLiteral_any (x : Int) (w : World) : Calls Try.prog 42 #[.int .i64 x] w fun e w' => e = .returned (.bool (litB x)) ∧ w = w' := by
  by_cases h0 : x = 0
  · subst h0
    go_enter Try.func42, Try.ntmps42
    go_wp2
    go_ret
    exact ⟨by simp [litB, IsLit], rfl⟩
  · by_cases h1 : x = -9223372036854775808
    · subst h1
      go_enter Try.func42, Try.ntmps42
      go_wp2
      go_ret
      exact ⟨by simp [litB, IsLit], rfl⟩
    · have g0 : (x == 0) = false := by simpa using h0
      have g1 : (x == -9223372036854775808) = false := by simpa using h1
      go_enter Try.func42, Try.ntmps42
      go_wp2
      go_ret
      exact ⟨by simp [litB, IsLit, h0, h1], rfl⟩

theorem notLiteral_any (x : Int) (w : World) : Calls Try.prog 43 #[.int .i64 x] w fun e w' => e = .returned (.bool (!litB x)) ∧ w = w' := by
  go_enter Try.func43, Try.ntmps43
  go_wp2_with (go_at_call 42; refine (isLiteral_any _ _).mono ?_; rintro e w' ⟨rfl, rfl⟩)
  go_ret
  exact ⟨rfl, rfl⟩

theorem atomOf_any (x : Int) (h1 : -9223372036854775807 ≤ x) (h2 : x ≤ 9223372036854775807) (w : World) : Calls Try.prog 34 #[.int .i64 x] w fun e w' => e = .returned (.int .i64 (x.natAbs : Int)) ∧ w = w' := by
  obtain ⟨a, ha⟩ : ∃ a : Int, (x.natAbs : Int) = a := ⟨_, rfl⟩
  rw [ha]
  by_cases h : 0 ≤ x
  · have e : a = x := by omega
    subst e
    clear ha
    go_enter Try.func34, Try.ntmps34
    go_wp2
    all_goals go_ret
    all_goals exact ⟨ret_int (by omega), rfl⟩
  · have e : a = -x := by omega
    subst e
    clear ha
    go_enter Try.func34, Try.ntmps34
    go_wp2
    all_goals go_ret
    all_goals exact ⟨ret_int (by omega), rfl⟩

/-- How two numbers stand to each other. -/
def cmpI (a b : Int) : Int := if a < b then -1 else if b < a then 1 else 0

theorem isNaN_any (x : Int) (w : World) : Calls Try.prog 46 #[.int .i64 x] w fun e w' => e = .returned (.bool false) ∧ w = w' := by
  go_enter Try.func46, Try.ntmps46
  go_wp2
  go_ret
  exact ⟨by simp, rfl⟩

theorem compare_any (a b : Int) (w : World) : Calls Try.prog 33 #[.int .i64 a, .int .i64 b] w fun e w' => e = .returned (.int .i64 (cmpI a b)) ∧ w = w' := by
  rcases Int.lt_trichotomy a b with h | h | h
  · go_enter Try.func33, Try.ntmps33
    go_wp2_with (go_at_call 46; refine (isNaN_any _ _).mono ?_; rintro e w' ⟨rfl, rfl⟩)
    go_ret
    exact ⟨ret_int (by rw [cmpI, if_pos h]), rfl⟩
  · subst h
    go_enter Try.func33, Try.ntmps33
    go_wp2_with (go_at_call 46; refine (isNaN_any _ _).mono ?_; rintro e w' ⟨rfl, rfl⟩)
    go_ret
    exact ⟨ret_int (by rw [cmpI, if_neg (by omega), if_neg (by omega)]), rfl⟩
  · go_enter Try.func33, Try.ntmps33
    go_wp2_with (go_at_call 46; refine (isNaN_any _ _).mono ?_; rintro e w' ⟨rfl, rfl⟩)
    go_ret
    exact ⟨ret_int (by rw [cmpI, if_neg (by omega), if_pos h]), rfl⟩

def OrRel (a b : Int) (i : Value) : Prop := (i = .int .i64 0) ∨ (i = .int .i64 1 ∧ a = 0) ∨ (i = .int .i64 2 ∧ a = 0 ∧ b = 0)

theorem or_any (w : World) (X : Nat) (a b : Int) (hX : w.heap[X]? = some (.cells #[.int .i64 a, .int .i64 b] 3 (0, 0))) : Calls Try.prog 32 #[.slice (some ⟨X, 0, none⟩) 2 2] w fun e w' => e = .returned (.int .i64 (if a = 0 then b else a)) ∧ w = w' := by
  have c0 := cells_get hX 0 (v := .int .i64 a) rfl
  have c1 := cells_get hX 1 (v := .int .i64 b) rfl
  have H0 := Lib.hid c0
  have H1 := Lib.hid c1
  clear hX c0 c1
  go_enter Try.func32, Try.ntmps32
  go_wp2
  go_loop [8] (fun i => OrRel a b i) (fun i => 2 - (intOf i).toNat)
  case atStart => exact .inl rfl
  case round =>
    rcases hrel with rfl | ⟨rfl, h⟩ | ⟨rfl, h, h'⟩
    · have c0 := H0.out
      by_cases ha : a = 0
      · subst ha
        go_wp2
        go_round
        case rel => exact .inr (.inl ⟨rfl, rfl⟩)
        case measure => simp [intOf]
      · have g : (a == 0) = false := by simpa using ha
        go_wp2
        go_ret
        exact ⟨ret_int (by simp), rfl⟩
    · subst h
      have c1 := H1.out
      by_cases hb : b = 0
      · subst hb
        go_wp2
        go_round
        case rel => exact .inr (.inr ⟨rfl, rfl, rfl⟩)
        case measure => simp [intOf]
      · have g : (b == 0) = false := by simpa using hb
        go_wp2
        go_ret
        exact ⟨ret_int (by simp), rfl⟩
    · subst h; subst h'
      go_wp2
      go_ret
      exact ⟨ret_int (by simp), rfl⟩

theorem or_is (w : World) (X : Nat) (a b r : Int) (hX : w.heap[X]? = some (.cells #[.int .i64 a, .int .i64 b] 3 (0, 0))) (hr : (if a = 0 then b else a) = r) : Calls Try.prog 32 #[.slice (some ⟨X, 0, none⟩) 2 2] w fun e w' => e = .returned (.int .i64 r) ∧ w = w' := by
  subst hr; exact or_any w X a b hX

/-- Literals, as numbers of 64 bits. -/
abbrev L64 := { x : Int // IsLit x ∧ -9223372036854775807 ≤ x ∧ x ≤ 9223372036854775807 }
instance : Inhabited L64 := ⟨⟨1, by decide⟩⟩
def encL (x : L64) : Value := .int .i64 x.val
def cfL (x y : L64) : Int := if cmpI (x.val.natAbs : Int) (y.val.natAbs : Int) = 0 then cmpI x.val y.val else cmpI (x.val.natAbs : Int) (y.val.natAbs : Int)

theorem cfL_lt (x y : L64) : decide (cfL x y < 0) = true ↔ Lt x.val y.val := by
  rw [decide_eq_true_eq]
  unfold cfL cmpI Lt
  split <;> split <;> (try split) <;> omega

theorem form1_any (x y : L64) (w : World) : Calls Try.prog 31 #[encL x, encL y] w fun e w' => e = .returned (.int .i64 (cfL x y)) ∧ ∃ q os', w' = Go.Sort.grow (w.drewN q) os' := by
  obtain ⟨r, hr⟩ : ∃ r, cfL x y = r := ⟨_, rfl⟩
  rw [hr]
  unfold cfL at hr
  have HR := Lib.hid hr
  clear hr
  obtain ⟨x, hx, x1, x2⟩ := x
  obtain ⟨y, hy, y1, y2⟩ := y
  unfold encL
  dsimp only at HR ⊢
  obtain ⟨c, hc⟩ : ∃ c, cmpI (x.natAbs : Int) (y.natAbs : Int) = c := ⟨_, rfl⟩
  obtain ⟨d, hd⟩ : ∃ d, cmpI x y = d := ⟨_, rfl⟩
  have HC := Lib.hid hc
  have HD := Lib.hid hd
  clear hc hd
  go_enter Try.func31, Try.ntmps31
  go_wp2_with fail
  refine (atomOf_any x x1 x2 _).mono ?_
  rintro e w' ⟨rfl, rfl⟩
  go_wp2_with fail
  refine (atomOf_any y y1 y2 _).mono ?_
  rintro e w' ⟨rfl, rfl⟩
  go_wp2_with fail
  refine (compare_any _ _ _).mono ?_
  rintro e w' ⟨rfl, rfl⟩
  rw [HC.out]
  go_wp2_with fail
  refine (compare_any _ _ _).mono ?_
  rintro e w' ⟨rfl, rfl⟩
  rw [HD.out]
  go_wp2_with fail
  refine (or_is _ w.heap.size c d r (heap_alloc_new w _) (by have := HR.out; rw [HC.out, HD.out] at this; exact this)).mono ?_
  rintro e w' ⟨rfl, rfl⟩
  go_wp2
  go_ret
  exact ⟨rfl, 0, #[.cells #[.int .i64 c, .int .i64 d] 3 (0, 0)], Go.Sort.alloc_eq_grow w _⟩

end Go.Proofs.Ytiomocmceccmbaa.Cn
