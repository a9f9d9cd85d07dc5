/- What the document's guards say: Great, GreatVariants. -/
import Derived.Test.YtbdceeecngibmaaVaMay
namespace Go.Proofs.Ytbdceeecngibmaa.Va
open Go.RowKit

def SomeB (P : Bool → Prop) (w : World) (e : Ending) (w' : World) : Prop := ∃ b : Bool, e = .returned (.bool b) ∧ P b ∧ w = w'

set_option maxHeartbeats 800000 in
theorem great01_any (w : World) (v : Value) (l : List ByteArray) (h : Strs w v l) (hl : l.length ≤ 20) :
    Calls Try.prog 33 #[v] w (SomeB (fun _ => True) w) := by
  obtain ⟨A, L, c, rfl, hL, h1, h2, h3⟩ := h.open'
  have hL20 : L ≤ 20 := by omega
  have H3 := Lib.hid h3
  clear h hL h3 hl
  go_enter Try.func33, Try.ntmps33
  go_wp2_with fail
  go_loop [3, 7] (fun n i => ∃ (k m : Nat), k ≤ L ∧ n = .int .i64 m ∧ i = .int .i64 k ∧ m ≤ 9000) (fun _ i => L - (intOf i).toNat)
  case atStart => exact ⟨0, 0, Nat.zero_le _, rfl, rfl, by omega⟩
  case round =>
    obtain ⟨k, m, hk, rfl, rfl, hm⟩ := hrel
    by_cases hlt : k < L
    · obtain ⟨b, off, rfl, hb, hc⟩ := H3.out (by omega)
      have hcx := (hc k hlt).1
      clear hc
      by_cases hl : (nthS l k).size ≤ 9000
      · have hmin : min ((nthS l k).size : Int) 9000 = (nthS l k).size := by omega
        clear hl
        by_cases hg : m + (1 + (nthS l k).size) ≤ 9000
        · have e1 : ¬ (9000 : Int) < (m : Int) + (1 + ((nthS l k).size : Int)) := by omega
          go_wp2
          go_round
          case rel => exact ⟨k + 1, m + (1 + (nthS l k).size), by omega, by go_num, by go_num, by omega⟩
          case measure => simp [intOf]; omega
        · have e1 : (9000 : Int) < (m : Int) + (1 + ((nthS l k).size : Int)) := by omega
          go_wp2
          go_ret
          exact ⟨_, rfl, trivial, rfl⟩
      · have e1 : (9000 : Int) < (m : Int) + (1 + min ((nthS l k).size : Int) 9000) := by omega
        clear hl
        go_wp2
        all_goals (go_ret; exact ⟨_, rfl, trivial, rfl⟩)
    · go_wp2
      go_ret
      exact ⟨_, rfl, trivial, rfl⟩

set_option maxHeartbeats 800000 in
set_option maxRecDepth 100000 in
theorem greatV_any (w : World) (v : Value) (l : List Var) (h : Vars w v l) :
    Calls Try.prog 13 #[v] w (SomeB (fun b => b = false → l.length ≤ 20) w) := by
  obtain ⟨A, L, c, rfl, hL, h1, h2, h3⟩ := h.open'
  unfold maxLen at h2
  have H3 := Lib.hid h3
  have HL := Lib.hid hL
  clear h hL h3
  by_cases h20 : 20 < L
  · have e1 : (20 : Int) < (L : Int) := by omega
    go_enter Try.func13, Try.ntmps13
    go_wp2
    go_ret
    exact ⟨true, rfl, by simp, rfl⟩
  · have e1 : ¬ (20 : Int) < (L : Int) := by omega
    have HLL := Lib.hid (show l.length ≤ 20 by have := HL.out; omega)
    go_enter Try.func13, Try.ntmps13
    go_wp2
    go_loop [9] (fun i => ∃ k : Nat, k ≤ L ∧ i = .int .i64 k) (fun i => L - (intOf i).toNat)
    case atStart => exact ⟨0, Nat.zero_le _, rfl⟩
    case round =>
      obtain ⟨k, hk, rfl⟩ := hrel
      by_cases hlt : k < L
      · obtain ⟨b, off, rfl, hb, hc⟩ := H3.out (by omega)
        obtain ⟨g1, ⟨u, g2, g3⟩, g4⟩ := hc k hlt
        have G3 := Lib.hid g3
        obtain ⟨A1, L1, c1, rfl, hl1, g5⟩ := g3.open'
        have HL1 := Lib.hid hl1
        clear hc g3 g5 hl1
        by_cases n1 : 100 < (nthV l k).1.size
        · have e2 : (100 : Int) < ((nthV l k).1.size : Int) := by omega
          go_wp2
          go_ret
          exact ⟨true, rfl, by simp, rfl⟩
        · have e2 : ¬ (100 : Int) < ((nthV l k).1.size : Int) := by omega
          by_cases n2 : 20 < L1
          · have e3 : (20 : Int) < (L1 : Int) := by omega
            go_wp2
            go_ret
            exact ⟨true, rfl, by simp, rfl⟩
          · have e3 : ¬ (20 : Int) < (L1 : Int) := by omega
            go_wp2_with (go_at_call 33; refine (great01_any _ _ _ G3.out (by have := HL1.out; omega)).mono ?_; rintro e w' ⟨b3, rfl, _, rfl⟩)
            · go_ret
              exact ⟨true, rfl, by simp, rfl⟩
            · go_round
              case rel => exact ⟨k + 1, by omega, by go_num⟩
              case measure => simp [intOf]; omega
      · go_wp2
        go_ret
        exact ⟨false, rfl, fun _ => HLL.out, rfl⟩

set_option maxHeartbeats 800000 in
set_option maxRecDepth 100000 in
theorem greatS_any (w : World) (v : Value) (l : List Set1) (h : Sets w v l) :
    Calls Try.prog 14 #[v] w (SomeB (fun b => b = false → l.length ≤ 50) w) := by
  obtain ⟨A, L, c, rfl, hL, h1, h2, h3⟩ := h.open'
  unfold maxLen at h2
  have H3 := Lib.hid h3
  have HL := Lib.hid hL
  clear h hL h3
  by_cases h20 : 50 < L
  · have e1 : (50 : Int) < (L : Int) := by omega
    go_enter Try.func14, Try.ntmps14
    go_wp2
    go_ret
    exact ⟨true, rfl, by simp, rfl⟩
  · have e1 : ¬ (50 : Int) < (L : Int) := by omega
    have HLL := Lib.hid (show l.length ≤ 50 by have := HL.out; omega)
    go_enter Try.func14, Try.ntmps14
    go_wp2
    go_loop [9] (fun i => ∃ k : Nat, k ≤ L ∧ i = .int .i64 k) (fun i => L - (intOf i).toNat)
    case atStart => exact ⟨0, Nat.zero_le _, rfl⟩
    case round =>
      obtain ⟨k, hk, rfl⟩ := hrel
      by_cases hlt : k < L
      · obtain ⟨b, off, rfl, hb, hc⟩ := H3.out (by omega)
        obtain ⟨g1, g2, g3⟩ := hc k hlt
        clear hc g3
        by_cases n1 : 100 < (nthT l k).1.size
        · have e2 : (100 : Int) < ((nthT l k).1.size : Int) := by omega
          go_wp2
          go_ret
          exact ⟨true, rfl, by simp, rfl⟩
        · have e2 : ¬ (100 : Int) < ((nthT l k).1.size : Int) := by omega
          by_cases n2 : 100 < (nthT l k).2.size
          · have e3 : (100 : Int) < ((nthT l k).2.size : Int) := by omega
            go_wp2
            go_ret
            exact ⟨true, rfl, by simp, rfl⟩
          · have e3 : ¬ (100 : Int) < ((nthT l k).2.size : Int) := by omega
            go_wp2
            go_round
            case rel => exact ⟨k + 1, by omega, by go_num⟩
            case measure => simp [intOf]; omega
      · go_wp2
        go_ret
        exact ⟨false, rfl, fun _ => HLL.out, rfl⟩

end Go.Proofs.Ytbdceeecngibmaa.Va
