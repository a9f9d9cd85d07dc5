/- What the document's guards say: Great of a recipe. -/
import Derived.Test.YtggejmojbebhfaaRcMem
namespace Go.Proofs.Ytggejmojbebhfaa.Rc
open Go.RowKit

def SomeB (P : Bool → Prop) (w : World) (e : Ending) (w' : World) : Prop := ∃ b : Bool, e = .returned (.bool b) ∧ P b ∧ w = w'
def SomeG (P : Bool → Prop) (w : World) (e : Ending) (w' : World) : Prop := ∃ b : Bool, e = .returned (.bool b) ∧ P b ∧ Below w.heap.size w w'

set_option maxHeartbeats 800000 in
set_option maxRecDepth 100000 in
theorem greatTexts_any (w : World) (v : Value) (l : List ByteArray) (h : RowD strK w v l) :
    Calls Try.prog 35 #[v] w (SomeB (fun b => b = false → l.length ≤ 50) w) := by
  obtain ⟨A, L, c, rfl, hL, h1, h2⟩ := h.open'
  unfold maxLen at h2
  have H := Lib.hid h
  have HL := Lib.hid hL
  clear h hL
  by_cases h20 : 50 < L
  · have e1 : (50 : Int) < (L : Int) := by omega
    go_enter Try.func35, Try.ntmps35
    go_wp2
    go_ret
    exact ⟨true, rfl, by simp, rfl⟩
  · have e1 : ¬ (50 : Int) < (L : Int) := by omega
    have HLL := Lib.hid (show l.length ≤ 50 by have := HL.out; omega)
    go_enter Try.func35, Try.ntmps35
    go_wp2
    go_loop [9] (fun i => ∃ k : Nat, k ≤ L ∧ i = .int .i64 k) (fun i => L - (intOf i).toNat)
    case atStart => exact ⟨0, Nat.zero_le _, rfl⟩
    case round =>
      obtain ⟨k, hk, rfl⟩ := hrel
      by_cases hlt : k < L
      · obtain ⟨b, off, rfl, hb, hs, hc⟩ := str_at H.out hlt
        go_wp2
        · go_ret
          exact ⟨true, rfl, by simp, rfl⟩
        · go_round
          case rel => exact ⟨k + 1, by omega, by go_num⟩
          case measure => simp [intOf]; omega
      · go_wp2
        go_ret
        exact ⟨false, rfl, fun _ => HLL.out, rfl⟩

set_option maxHeartbeats 800000 in
set_option maxRecDepth 100000 in
theorem great03_any (w : World) (v : Value) (l : List Set1) (h : RowD setK w v l) :
    Calls Try.prog 88 #[v] w (SomeB (fun b => b = false → l.length ≤ 30) w) := by
  obtain ⟨A, L, c, rfl, hL, h1, h2⟩ := h.open'
  unfold maxLen at h2
  have H := Lib.hid h
  have HL := Lib.hid hL
  clear h hL
  by_cases h20 : 30 < L
  · have e1 : (30 : Int) < (L : Int) := by omega
    go_enter Try.func88, Try.ntmps88
    go_wp2
    go_ret
    exact ⟨true, rfl, by simp, rfl⟩
  · have e1 : ¬ (30 : Int) < (L : Int) := by omega
    have HLL := Lib.hid (show l.length ≤ 30 by have := HL.out; omega)
    go_enter Try.func88, Try.ntmps88
    go_wp2
    go_loop [9] (fun i => ∃ k : Nat, k ≤ L ∧ i = .int .i64 k) (fun i => L - (intOf i).toNat)
    case atStart => exact ⟨0, Nat.zero_le _, rfl⟩
    case round =>
      obtain ⟨k, hk, rfl⟩ := hrel
      by_cases hlt : k < L
      · obtain ⟨b, off, rfl, hb, hs, hs2, hc, hc2⟩ := set_at H.out hlt
        go_wp2
        all_goals first
          | (go_ret; exact ⟨true, rfl, by simp, rfl⟩)
          | (go_round
             case rel => exact ⟨k + 1, by omega, by go_num⟩
             case measure => simp [intOf]; omega)
      · go_wp2
        go_ret
        exact ⟨false, rfl, fun _ => HLL.out, rfl⟩

theorem below_alloc (w : World) (o : Obj) : Below w.heap.size w (w.alloc o) := (Below.refl _ _).alloc (Nat.le_refl _) _

set_option maxHeartbeats 800000 in
set_option maxRecDepth 100000 in
theorem greatSpec_any (w : World) (v1 v2 : Value) (x : Spec) (h : IsSpec w v1 v2 x) :
    Calls Try.prog 62 #[.agg #[.string x.name, v1, v2]] w (SomeG (fun b => b = false → x.spans.length ≤ 30 ∧ x.sets.length ≤ 20) w) := by
  have hb := below_alloc w (.cells #[.string x.name, v1, v2] 73)
  have h' := h.below hb (Nat.le_refl _)
  have HX := Lib.hid h'
  obtain ⟨A1, L1, c1, rfl, hL1, h11, h12⟩ := h.spans.open'
  obtain ⟨A2, L2, c2, rfl, hL2, h21, h22⟩ := h.sets.open'
  unfold maxLen at h12 h22
  have HB := Lib.hid hb
  have HL2 := Lib.hid hL2
  clear h h' hL1 hL2 hb
  by_cases h20 : 20 < L2
  · have e1 : (20 : Int) < (L2 : Int) := by omega
    go_enter Try.func62, Try.ntmps62
    go_wp2
    all_goals (go_ret; exact ⟨true, rfl, by simp, HB.out⟩)
  · have e1 : ¬ (20 : Int) < (L2 : Int) := by omega
    have HLL := Lib.hid (show x.sets.length ≤ 20 by have := HL2.out; omega)
    by_cases hn : 100 < x.name.size
    · have e0 : (100 : Int) < (x.name.size : Int) := by omega
      go_enter Try.func62, Try.ntmps62
      go_wp2
      go_ret
      exact ⟨true, rfl, by simp, HB.out⟩
    · have e0 : ¬ (100 : Int) < (x.name.size : Int) := by omega
      clear hn
      go_enter Try.func62, Try.ntmps62
      go_wp2_with fail
      refine (great03_any _ _ _ HX.out.spans).mono ?_
      rintro e w' ⟨b3, rfl, hb3, rfl⟩
      cases b3 with
      | true =>
        clear hb3
        go_wp2
        go_ret
        exact ⟨true, rfl, by simp, HB.out⟩
      | false =>
      have HSP := Lib.hid (hb3 rfl)
      clear hb3
      go_wp2
      go_loop [22] (fun i => ∃ k : Nat, k ≤ L2 ∧ i = .int .i64 k) (fun i => L2 - (intOf i).toNat)
      case atStart => exact ⟨0, Nat.zero_le _, rfl⟩
      case round =>
        obtain ⟨k, hk, rfl⟩ := hrel
        by_cases hlt : k < L2
        · obtain ⟨b, off, rfl, hb, hs, hs2, hc, hc2⟩ := set_at HX.out.sets hlt
          go_wp2
          all_goals first
            | (go_ret; exact ⟨true, rfl, by simp, HB.out⟩)
            | (go_round
               case rel => exact ⟨k + 1, by omega, by go_num⟩
               case measure => simp [intOf]; omega)
        · go_wp2
          go_ret
          exact ⟨false, rfl, fun _ => ⟨HSP.out, HLL.out⟩, HB.out⟩
theorem box_get {w1 w2 : World} {B : Nat} {cs : Array Value} {T : TypeId} (h : w1.heap[B]? = some (.cells cs T (0, 0))) (hb : Below w1.heap.size w1 w2) (j : Nat) {v : Value} (hv : cs[j]? = some v) : w2.cell? ⟨B, j, none⟩ = some v :=
  cells_get (heap_below h hb) j hv

end Go.Proofs.Ytggejmojbebhfaa.Rc
