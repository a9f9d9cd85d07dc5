/- How two costs stand to each other. -/
import Derived.Test.YtaahdhpljlkfjaaGreatZg34
import Derived.Test.YtaahdhpljlkfjaaGreatZg14
import Derived.Deep.RegionWith
namespace Go.Proofs.YtaahdhpljlkfjaaGreat.Rc
open Go.RowKit

/-- From the sum at `i` on, `n` sums: is the first one that is another less? -/
def lessAt (a b : List Int) : Nat → Nat → Bool
  | 0, _ => false
  | n + 1, i => if nth a i = nth b i then lessAt a b n (i + 1) else decide (nth a i < nth b i)
def lessC (a b : List Int) : Bool := lessAt a b 6 0
def cmpAt (a b : List Int) : Nat → Nat → Int
  | 0, _ => 0
  | n + 1, i => if nth a i = nth b i then cmpAt a b n (i + 1) else if nth a i < nth b i then -1 else 1
def cmpC (a b : List Int) : Int := cmpAt a b 6 0
theorem cmpAt_less (a b : List Int) : ∀ n i, cmpAt a b n i = if lessAt b a n i then 1 else if lessAt a b n i then -1 else 0
  | 0, _ => rfl
  | n + 1, i => by
    have ih := cmpAt_less a b n (i + 1)
    unfold cmpAt lessAt
    by_cases e : nth a i = nth b i
    · rw [if_pos e, if_pos e, if_pos e.symm, ih]
    · have e' : ¬ nth b i = nth a i := fun h => e h.symm
      rw [if_neg e, if_neg e, if_neg e']
      by_cases h : nth a i < nth b i
      · rw [if_pos h, decide_eq_true h, decide_eq_false (by omega)]; rfl
      · rw [if_neg h, decide_eq_false h, decide_eq_true (by omega)]; rfl
theorem cmpAt_neg (a b : List Int) : ∀ n i, cmpAt b a n i = - cmpAt a b n i
  | 0, _ => rfl
  | n + 1, i => by
    have ih := cmpAt_neg a b n (i + 1)
    unfold cmpAt
    by_cases e : nth a i = nth b i
    · rw [if_pos e, if_pos e.symm, ih]
    · have e' : ¬ nth b i = nth a i := fun h => e h.symm
      rw [if_neg e, if_neg e']
      by_cases h : nth a i < nth b i
      · rw [if_pos h, if_neg (by omega)]; rfl
      · rw [if_neg h, if_pos (by omega)]
theorem less_step {a b : List Int} {k : Nat} {r : Bool} (hk : k < 6) (h : lessAt a b (6 - k) k = r) (e : nth a k = nth b k) : lessAt a b (6 - (k + 1)) (k + 1) = r := by
  rw [show 6 - k = (6 - (k + 1)) + 1 by omega] at h
  unfold lessAt at h
  rwa [if_pos e] at h
theorem less_out {a b : List Int} {k : Nat} {r : Bool} (hk : k < 6) (h : lessAt a b (6 - k) k = r) (e : ¬ nth a k = nth b k) : r = decide (nth a k < nth b k) := by
  rw [show 6 - k = (6 - (k + 1)) + 1 by omega] at h
  unfold lessAt at h
  rw [if_neg e] at h; exact h.symm
theorem cmp_step {a b : List Int} {k : Nat} {r : Int} (hk : k < 6) (h : cmpAt a b (6 - k) k = r) (e : nth a k = nth b k) : cmpAt a b (6 - (k + 1)) (k + 1) = r := by
  rw [show 6 - k = (6 - (k + 1)) + 1 by omega] at h
  unfold cmpAt at h
  rwa [if_pos e] at h
theorem cmp_out {a b : List Int} {k : Nat} {r : Int} (hk : k < 6) (h : cmpAt a b (6 - k) k = r) (e : ¬ nth a k = nth b k) : r = if nth a k < nth b k then -1 else 1 := by
  rw [show 6 - k = (6 - (k + 1)) + 1 by omega] at h
  unfold cmpAt at h
  rw [if_neg e] at h; exact h.symm
def costA (l : List Int) : Array Value := #[.int .i64 (nth l 0), .int .i64 (nth l 1), .int .i64 (nth l 2), .int .i64 (nth l 3), .int .i64 (nth l 4), .int .i64 (nth l 5)]
theorem costA_at (l : List Int) : ∀ {k : Nat}, k < 6 → (costA l)[k]? = some (.int .i64 (nth l k))
  | 0, _ => rfl
  | 1, _ => rfl
  | 2, _ => rfl
  | 3, _ => rfl
  | 4, _ => rfl
  | 5, _ => rfl
  | n + 6, h => by omega

theorem index_cost {k : Nat} (hk : k < 6) (B : Nat) (w : World) : (Instr.indexAt 38 (.pointer (some ⟨B, 0, none⟩)) (.int .i64 (k : Int))).run Tryz.prog w = .ok (.pointer (some ⟨B, k, none⟩)) w := by
  have h1 : Tryz.prog.arrayLen 38 = 6 := by kernel_rfl
  have h2 : Tryz.prog.elem 38 = 3 := by kernel_rfl
  have h3 : Tryz.prog.underlying 38 = some (.array (Tryz.prog.arrayLen 38) (Tryz.prog.elem 38)) := by kernel_rfl
  rw [Go.run_indexAt_array _ _ _ _ _ h3, h1, h2]
  rw [if_pos ⟨by omega, by omega⟩]
  simp [go_sem, Addr.add]
  exact fun h => h.symm
theorem int_apart {a b : Int} (h : ¬ a = b) : (a == b) = false ∧ (a != b) = true := by simp [h]
theorem int_alike {a b : Int} (h : a = b) : (a == b) = true ∧ (a != b) = false := by simp [h]
set_option maxRecDepth 100000 in
set_option maxHeartbeats 1600000 in
theorem less_any (w : World) (a b : List Int) (r : Bool) (hr : lessC a b = r) :
    Calls Tryz.prog 12 #[costV a, costV b] w fun e w' => e = .returned (.bool r) ∧ Below w.heap.size w w' := by
  have HX0 := Lib.hid (Bxs.two w (costA a) 38 (costA b) 38)
  have HR := Lib.hid (show lessAt a b (6 - 0) 0 = r from hr)
  clear hr
  unfold costV
  unfold costA at HX0
  go_enter Tryz.func12, Tryz.ntmps12
  go_wp2
  go_loopw [6] (fun i wr => ∃ k : Nat, k ≤ 6 ∧ i = .int .i64 k ∧ Hid (lessAt a b (6 - k) k = r) ∧ Hid (Bxs w wr [(costA a, 38), (costA b, 38)])) (fun i _ => 6 - (RowKit.intOf i).toNat)
  case atStart => exact ⟨0, by omega, rfl, HR, HX0⟩
  case round =>
    clear HX0 HR
    obtain ⟨k, hk, rfl, HR, HX⟩ := hrel
    by_cases hlt : k < 6
    · have x0 := HX.out.get 0 k rfl (costA_at a hlt)
      have x1 := HX.out.get 1 k rfl (costA_at b hlt)
      rw [Nat.add_zero] at x0
      have g0 : (0 : Int) ≤ (k : Int) := by omega
      have g1 : (k : Int) < (6 : Int) := by omega
      have i0 := index_cost hlt w.heap.size
      have i1 := index_cost hlt (w.heap.size + 1)
      by_cases e : nth a k = nth b k
      · have HN := Lib.hid (less_step hlt HR.out e)
        obtain ⟨f1, f2⟩ := int_alike e
        go_wp2_with fail
        go_region
        all_goals
          go_wp2
          go_roundw
          case rel => exact ⟨k + 1, by omega, by go_num, HN, Lib.hid HX.out.drew⟩
          case measure => simp [RowKit.intOf]; omega
      · obtain ⟨f1, f2⟩ := int_apart e
        have HN := Lib.hid (less_out hlt HR.out e)
        go_wp2_with fail
        go_region
        all_goals
          go_wp2_with fail
          go_region
          all_goals
            go_wp2
            go_ret
            exact ⟨ret_bool HN.out.symm, HX.out.drew.drew.bel⟩
    · obtain rfl : k = 6 := by omega
      have HN := Lib.hid (show false = r from HR.out)
      go_wp2
      go_ret
      exact ⟨ret_bool HN.out, HX.out.bel⟩
end Go.Proofs.YtaahdhpljlkfjaaGreat.Rc

/- How two costs stand to each other: the program. -/
namespace Go.Proofs.YtaahdhpljlkfjaaGreat.Rc
open Go.RowKit

theorem compareInt_eq {x y : Int} (e : x = y) : Lib.compareInt x y = 0 := by unfold Lib.compareInt; rw [if_neg (by omega), if_neg (by omega)]
theorem compareInt_ne {x y : Int} (e : ¬ x = y) : Lib.compareInt x y = (if x < y then -1 else 1) := by
  unfold Lib.compareInt
  by_cases h : x < y
  · rw [if_pos h, if_pos h]
  · rw [if_neg h, if_neg h, if_pos (by omega)]
set_option maxRecDepth 100000 in
set_option maxHeartbeats 1600000 in
theorem cmpRow_is (w : World) (B1 B2 : Nat) (a b : List Int) (h1 : ∀ k, k < 6 → w.cell? ⟨B1, k, none⟩ = some (.int .i64 (nth a k))) (h2 : ∀ k, k < 6 → w.cell? ⟨B2, k, none⟩ = some (.int .i64 (nth b k))) (r : Int) (hr : cmpC a b = r) :
    Calls Tryz.prog 34 #[.slice (some ⟨B1, 0, none⟩) 6 6, .slice (some ⟨B2, 0, none⟩) 6 6] w fun e w' => e = .returned (.int .i64 r) ∧ w' = w := by
  have HA := Lib.hid h1
  have HB := Lib.hid h2
  have HR0 := Lib.hid (show cmpAt a b (6 - 0) 0 = r from hr)
  clear h1 h2 hr
  go_enter Tryz.func34, Tryz.ntmps34
  go_wp2
  go_loop [11] (fun i => ∃ k : Nat, k ≤ 6 ∧ i = .int .i64 k ∧ Hid (cmpAt a b (6 - k) k = r)) (fun i => 6 - (RowKit.intOf i).toNat)
  case atStart => exact ⟨0, by omega, rfl, HR0⟩
  case round =>
    clear HR0
    obtain ⟨k, hk, rfl, HR⟩ := hrel
    by_cases hlt : k < 6
    · have x0 := HA.out k hlt
      have x1 := HB.out k hlt
      have g0 : (0 : Int) ≤ (k : Int) := by omega
      have g1 : (k : Int) < (6 : Int) := by omega
      have g2 : ¬ (6 : Int) ≤ (k : Int) := by omega
      obtain ⟨c, hc⟩ : ∃ c, Lib.compareInt (nth a k) (nth b k) = c := ⟨_, rfl⟩
      go_wp2_with fail
      refine (Tryz.cmp_Compare_int _ _ _).mono ?_
      rintro e w1 ⟨rfl, rfl⟩
      rw [hc]
      by_cases e : nth a k = nth b k
      · obtain rfl : c = 0 := by rw [← hc]; exact compareInt_eq e
        have HN := Lib.hid (cmp_step hlt HR.out e)
        clear hc
        go_wp2
        go_round
        case rel => exact ⟨k + 1, by omega, by go_num, HN⟩
        case measure => simp [RowKit.intOf]; omega
      · have hcr : c = r := by rw [← hc, compareInt_ne e, cmp_out hlt HR.out e]
        have hcn : ¬ c = 0 := by rw [← hc, compareInt_ne e]; split <;> omega
        obtain ⟨f1, f2⟩ := int_apart hcn
        have HC := Lib.hid hcr
        clear hc hcr
        go_wp2
        go_ret
        exact ⟨ret_int HC.out, rfl⟩
    · obtain rfl : k = 6 := by omega
      have HN := Lib.hid (show 0 = r from HR.out)
      go_wp2
      go_ret
      exact ⟨ret_int HN.out, rfl⟩
set_option maxRecDepth 100000 in
theorem slice_cost (B : Nat) (w : World) : (Instr.sliceAt 38 (.pointer (some ⟨B, 0, none⟩)) none none none).run Tryz.prog w = .ok (.slice (some ⟨B, 0, none⟩) 6 6) w := by
  have h3 : Tryz.prog.underlying 38 = some (.array 6 3) := by kernel_rfl
  simp [Instr.sliceAt, run_underlying h3, Instr.sureAddr, Instr.sliceBounds, Tryz.sizeOf3, go_sem]

set_option maxRecDepth 100000 in
set_option maxHeartbeats 1600000 in
theorem compare_any (w : World) (a b : List Int) (r : Int) (hr : cmpC a b = r) :
    Calls Tryz.prog 13 #[costV a, costV b] w fun e w' => e = .returned (.int .i64 r) ∧ Below w.heap.size w w' := by
  have HX0 := Lib.hid (Bxs.two w (costA a) 38 (costA b) 38)
  have HX := Lib.hid HX0.out.drew
  have C := Lib.hid (cmpRow_is _ w.heap.size (w.heap.size + 1) a b (fun k hk => by have := HX.out.get 0 k rfl (costA_at a hk); rwa [Nat.add_zero] at this) (fun k hk => HX.out.get 1 k rfl (costA_at b hk)) r hr)
  have s0 := slice_cost w.heap.size
  have s1 := slice_cost (w.heap.size + 1)
  clear hr
  unfold costV
  unfold costA at HX C
  go_enter Tryz.func13, Tryz.ntmps13
  go_wp2_with fail
  go_region_with (go_at_call 34; refine C.out.mono ?_; rintro e w' ⟨rfl, rfl⟩)
  go_wp2
  go_ret
  exact ⟨rfl, HX.out.bel⟩
end Go.Proofs.YtaahdhpljlkfjaaGreat.Rc
