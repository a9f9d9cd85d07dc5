/- ref.Compare, ref.Same, ref.Great; the chapter's examples. -/
import Derived.Test.YtiapaipamockaaaVerRef4
import Derived.Test.YtiapaipamockaaaVerCompare
namespace Go.Proofs.Ytiapaipamockaaa.Ver
open Go.RowKit

theorem less_is (a b : ByteArray) (v : Bool) (h : less a.data.toList b.data.toList = v) (w : World) :
    Calls Try.prog 18 #[.string a, .string b] w fun e w' => e = .returned (.bool v) ∧ Below w.heap.size w w' := by
  subst h; exact less_any a b w

theorem refCompare_any (a b : ByteArray) (w : World) :
    Calls Try.prog 16 #[.string a, .string b] w fun e w' => e = .returned (.int .i64 (compare a.data.toList b.data.toList)) ∧ Below w.heap.size w w' := by
  have hr := compare_range a.data.toList b.data.toList
  have ha := compare_anti a.data.toList b.data.toList
  obtain ⟨n, hn⟩ : ∃ n, compare a.data.toList b.data.toList = n := ⟨_, rfl⟩
  have Hn := Lib.hid hn
  rw [hn] at hr ha
  rcases hr with rfl | rfl | rfl
  · have H1 := Lib.hid (show less a.data.toList b.data.toList = true by unfold less; rw [hn]; rfl)
    clear hn ha
    go_enter Try.func16, Try.ntmps16
    go_wp2_with fail
    refine (less_is a b _ H1.out _).mono ?_
    rintro e w1 ⟨rfl, h1⟩
    go_wp2
    go_ret
    exact ⟨by rw [Hn.out]; rfl, h1⟩
  · have H1 := Lib.hid (show less a.data.toList b.data.toList = false by unfold less; rw [hn]; rfl)
    have H2 := Lib.hid (show less b.data.toList a.data.toList = false by unfold less; rw [ha]; rfl)
    clear hn ha
    go_enter Try.func16, Try.ntmps16
    go_wp2_with fail
    refine (less_is a b _ H1.out _).mono ?_
    rintro e w1 ⟨rfl, h1⟩
    go_wp2_with fail
    refine (less_is b a _ H2.out _).mono ?_
    rintro e w2 ⟨rfl, h2⟩
    go_wp2
    go_ret
    exact ⟨by rw [Hn.out]; rfl, h1.trans (h2.mono h1.size)⟩
  · have H1 := Lib.hid (show less a.data.toList b.data.toList = false by unfold less; rw [hn]; rfl)
    have H2 := Lib.hid (show less b.data.toList a.data.toList = true by unfold less; rw [ha]; rfl)
    clear hn ha
    go_enter Try.func16, Try.ntmps16
    go_wp2_with fail
    refine (less_is a b _ H1.out _).mono ?_
    rintro e w1 ⟨rfl, h1⟩
    go_wp2_with fail
    refine (less_is b a _ H2.out _).mono ?_
    rintro e w2 ⟨rfl, h2⟩
    go_wp2
    go_ret
    exact ⟨by rw [Hn.out]; rfl, h1.trans (h2.mono h1.size)⟩

theorem compare_is (a b : ByteArray) (n : Int) (h : compare a.data.toList b.data.toList = n) (w : World) :
    Calls Try.prog 15 #[.string a, .string b] w fun e w' => e = .returned (.int .i64 n) ∧ Below w.heap.size w w' := by
  subst h; exact compare_any a b w
theorem refCompare_is (a b : ByteArray) (n : Int) (h : compare a.data.toList b.data.toList = n) (w : World) :
    Calls Try.prog 16 #[.string a, .string b] w fun e w' => e = .returned (.int .i64 n) ∧ Below w.heap.size w w' := by
  subst h; exact refCompare_any a b w

theorem fixed_any (w : World) :
    Calls Try.prog 8 #[] w fun e w' => e = .returned (.bool true) ∧ Below w.heap.size w w' := by
  go_enter Try.func8, Try.ntmps8
  go_wp2_with fail
  refine (compare_is _ _ (-1) (by decide +kernel) _).mono ?_
  rintro e w1 ⟨rfl, h1⟩
  go_wp2_with fail
  refine (compare_is _ _ (-1) (by decide +kernel) _).mono ?_
  rintro e w2 ⟨rfl, h2⟩
  go_wp2_with fail
  refine (compare_is _ _ (-1) (by decide +kernel) _).mono ?_
  rintro e w3 ⟨rfl, h3⟩
  go_wp2
  go_ret
  exact ⟨rfl, h1.trans ((h2.trans (h3.mono h2.size)).mono h1.size)⟩

set_option maxHeartbeats 800000 in
/-- Are two lists of texts the same? -/
theorem same_any (x y : List Bs) (a b : Value) (w : World) (hx : x.length ≤ 1000000) (ha : StrAt w a x) (hb : StrAt w b y) :
    Calls Try.prog 12 #[a, b] w fun e w' => e = .returned (.bool (decide (x = y))) ∧ Below w.heap.size w w' := by
  obtain ⟨ax, cx, rfl, fx⟩ := ha
  obtain ⟨ay, cy, rfl, fy⟩ := hb
  have FX := Lib.hid fx
  have FY := Lib.hid fy
  clear fx fy
  by_cases hl : x.length = y.length
  · have e1 : ((x.length : Int) == (y.length : Int)) = true := by rw [hl]; simp
    go_enter Try.func12, Try.ntmps12
    go_wp2_with fail
    go_loopw [13] (fun i wr => ∃ k : Nat, k ≤ x.length ∧ i = .int .i64 k ∧ Hid (∀ j, j < k → nth x j = nth y j) ∧ Below w.heap.size w wr) (fun i _ => x.length - (intOf i).toNat)
    case atStart => exact ⟨0, Nat.zero_le _, rfl, Lib.hid (fun j hj => absurd hj (Nat.not_lt_zero j)), Below.refl _ _⟩
    case round =>
      rename_i wr
      obtain ⟨k, hk, rfl, hall, hbw⟩ := hrel
      by_cases hlt : k < x.length
      · obtain ⟨bx, ox, rfl, qx, gx⟩ := FX.out (by omega)
        obtain ⟨by', oy, rfl, qy, gy⟩ := FY.out (by omega)
        have hcx := (hbw.cell qx).trans (gx k hlt)
        have hcy := (hbw.cell qy).trans (gy k (by omega))
        have hlt2 : k < y.length := by omega
        have HL := Lib.hid hl
        clear gx gy qx qy hl
        by_cases he : nth x k = nth y k
        · have e2 : (nth x k == nth y k) = true := by rw [he]; simp
          have hn : Hid (∀ j, j < k + 1 → nth x j = nth y j) := Lib.hid (fun j hj => by
            by_cases h : j = k
            · rw [h]; exact he
            · exact hall.out j (by omega))
          clear he
          go_wp2_with fail
          go_quiet (fail)
          go_wp2
          go_roundw
          case rel => exact ⟨k + 1, by omega, by go_num, hn, below_draws hbw _⟩
          case measure => simp [intOf]; omega
        · have Hv := Lib.hid (show decide (x = y) = false by rw [decide_eq_false_iff_not]; intro e; exact he (by rw [e]))
          have e2 : (nth x k == nth y k) = false := by simpa using he
          clear he
          go_wp2_with fail
          go_quiet (fail)
          go_wp2
          go_ret
          exact ⟨by rw [Hv.out]; rfl, below_draws hbw _⟩
      · have Hv := Lib.hid (show decide (x = y) = true by
          rw [decide_eq_true_iff]
          refine List.ext_getElem hl fun i h1 h2 => ?_
          have := hall.out i (by omega)
          rwa [nth_lt h1, nth_lt h2] at this)
        go_wp2
        go_ret
        exact ⟨by rw [Hv.out]; rfl, hbw⟩
  · have e1 : ((x.length : Int) == (y.length : Int)) = false := by simp; omega
    have Hv := Lib.hid (show decide (x = y) = false by simp; intro e; exact hl (by rw [e]))
    go_enter Try.func12, Try.ntmps12
    go_wp2
    go_ret
    exact ⟨by rw [Hv.out]; rfl, Below.refl _ _⟩

set_option maxHeartbeats 800000 in
/-- More than is gone through? -/
theorem great_any (x : List Bs) (a : Value) (w : World) (hx : x.length ≤ 1000000) (ha : StrAt w a x) :
    Calls Try.prog 14 #[a] w fun e w' => (e = .returned (.bool true) ∨ e = .returned (.bool false) ∧ ∀ i, i < x.length → (nth x i).length ≤ 9000) ∧ Below w.heap.size w w' := by
  obtain ⟨ax, cx, rfl, fx⟩ := ha
  have FX := Lib.hid fx
  clear fx
  go_enter Try.func14, Try.ntmps14
  go_wp2_with fail
  go_loop [3, 7] (fun n i => ∃ (k m : Nat), k ≤ x.length ∧ n = .int .i64 m ∧ i = .int .i64 k ∧ m ≤ 9000 ∧ Hid (∀ j, j < k → (nth x j).length ≤ 9000)) (fun _ i => x.length - (intOf i).toNat)
  case atStart => exact ⟨0, 0, Nat.zero_le _, rfl, rfl, by omega, Lib.hid (by omega)⟩
  case round =>
    obtain ⟨k, m, hk, rfl, rfl, hm, hall⟩ := hrel
    by_cases hlt : k < x.length
    · obtain ⟨bx, ox, rfl, _, gx⟩ := FX.out (by omega)
      have hcx := gx k hlt
      clear gx
      have hn : (nth x k).length ≤ 9000 → Hid (∀ j, j < k + 1 → (nth x j).length ≤ 9000) := fun hl => Lib.hid (fun j hj => by
        by_cases h : j = k
        · rw [h]; exact hl
        · exact hall.out j (by omega))
      by_cases hl : (nth x k).length ≤ 9000
      · have hmin : min ((nth x k).length : Int) 9000 = (nth x k).length := by omega
        have hn := hn hl
        clear hl
        by_cases hg : m + (1 + (nth x k).length) ≤ 9000
        · have e1 : ¬ (9000 : Int) < (m : Int) + (1 + ((nth x k).length : Int)) := by omega
          go_wp2
          go_round
          case rel => exact ⟨k + 1, m + (1 + (nth x k).length), by omega, by go_num, by go_num, by omega, hn⟩
          case measure => simp [intOf]; omega
        · have e1 : (9000 : Int) < (m : Int) + (1 + ((nth x k).length : Int)) := by omega
          go_wp2
          go_ret
          exact ⟨.inl rfl, Below.refl _ _⟩
      · have e1 : (9000 : Int) < (m : Int) + (1 + min ((nth x k).length : Int) 9000) := by omega
        clear hl hn
        go_wp2
        go_ret
        exact ⟨.inl rfl, Below.refl _ _⟩
    · go_wp2
      go_ret
      exact ⟨.inr ⟨rfl, fun i hi => hall.out i (by omega)⟩, Below.refl _ _⟩

end Go.Proofs.Ytiapaipamockaaa.Ver
