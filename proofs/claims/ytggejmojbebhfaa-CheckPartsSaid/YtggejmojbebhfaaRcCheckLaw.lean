/- CheckRecipe's walk. -/
import Derived.Test.YtggejmojbebhfaaRcRefRec
import Derived.Test.YtggejmojbebhfaaRcGreat3
import Derived.Test.YtggejmojbebhfaaRcOpen
namespace Go.Proofs.Ytggejmojbebhfaa.Rc
open Go.RowKit Go.Sort

def pkg0 : Pkg := ⟨⟨#[97]⟩, 3, [], [], [], [], [], []⟩
def rec0 : Rec := ⟨[pkg0], []⟩
theorem rec0_prob : recProb rec0 = (4, 3) := by decide +kernel
theorem rec0_is {w : World} {X : Nat} (h : w.heap[X]? = some (.cells #[.string ⟨#[97]⟩, .int .i64 3, .slice none 0 0, .slice none 0 0, .slice none 0 0, .slice none 0 0, .slice none 0 0, .slice none 0 0] 45 (0, 0))) :
    IsRec w (.slice (some ⟨X, 0, none⟩) 1 1) (.slice none 0 0) rec0 := by
  refine ⟨⟨_, 1, rfl, by decide, by simp [maxLen], fun _ => ⟨X, 0, rfl, lt_of_heap h, fun j hj => ?_⟩⟩, RowD.nil w⟩
  have : j = 0 := by simp [rec0] at hj; omega
  subst this
  refine ⟨_, ⟨_, _, _, _, _, _, rfl, ⟨(show (⟨#[97]⟩ : ByteArray).size ≤ maxLen by unfold maxLen; decide), by decide, RowD.nil w, RowD.nil w, RowD.nil w, RowD.nil w, RowD.nil w, RowD.nil w⟩⟩, fun i hi => ?_⟩
  have hi' : i < 8 := hi
  rw [Nat.zero_mul, Nat.zero_add, cell_of_row w X i _ _ _ h]
  exact List.getElem?_toArray

set_option maxRecDepth 100000 in
theorem fixed9_any (w : World) : Calls Try.prog 10 #[] w fun e w' => e = .returned (.bool true) ∧ Below w.heap.size w w' := by
  have hn := heap_alloc_new w (.cells #[.string ⟨#[97]⟩, .int .i64 3, .slice none 0 0, .slice none 0 0, .slice none 0 0, .slice none 0 0, .slice none 0 0, .slice none 0 0] 45)
  have HR := Lib.hid (rec0_is hn)
  have HB := Lib.hid (below_alloc' w (.cells #[.string ⟨#[97]⟩, .int .i64 3, .slice none 0 0, .slice none 0 0, .slice none 0 0, .slice none 0 0, .slice none 0 0, .slice none 0 0] 45))
  clear hn
  go_enter Try.func10, Try.ntmps10
  go_wp2_with fail
  refine (recipe_is _ _ _ rec0 HR.out (4, 3) rec0_prob).mono ?_
  rintro e w' ⟨rfl, hb⟩
  have HB2 := Lib.hid (HB.out.trans (hb.mono HB.out.size))
  clear hb
  go_wp2
  go_ret
  exact ⟨rfl, HB2.out⟩

set_option maxRecDepth 100000 in
set_option maxHeartbeats 1600000 in
theorem checkRecipe_any (w : World) (v1 v2 : Value) (x : Rec) (h : IsRec w v1 v2 x) :
    Calls Try.prog 3 #[.agg #[v1, v2]] w fun e w' => e = .returned (.bool true) ∧ Below w.heap.size w w' := by
  have HI := Lib.hid (InBox.new h)
  obtain ⟨A1, L1, c1, A2, L2, c2, rfl, rfl, hr⟩ := rec_box h
  clear hr h
  go_enter Try.func3, Try.ntmps3
  go_wp2_with fail
  refine (great07_any _ _ _ x HI.out.isr).mono ?_
  rintro e w1 ⟨b, rfl, hs, hb⟩
  have HI1 := Lib.hid (HI.out.step hb)
  clear hb
  cases b with
  | true =>
    clear hs
    go_wp2_with fail
    refine (fixed9_any _).mono ?_
    rintro e w2 ⟨rfl, hb⟩
    have HB := Lib.hid (HI1.out.bel.trans (hb.mono HI1.out.bel.size))
    clear hb
    go_wp2
    go_ret
    exact ⟨rfl, HB.out⟩
  | false =>
    have hl : x.pkgs.length ≤ 1000 := Nat.le_trans (hs rfl).pkgs (by omega)
    have HL := Lib.hid hl
    obtain ⟨r, hr⟩ : ∃ r, recProb x = r := ⟨_, rfl⟩
    have HRR := Lib.hid hr
    have x0 := cell_regrown HI1.out.c0
    have x1 := cell_regrown HI1.out.c1
    have C1 := Lib.hid (show ∀ d os, Calls Try.prog 10 #[] (grow (redrawn w1 d) os) fun e w'' => e = .returned (.bool true) ∧ ∃ p : Regrown, w'' = grow (redrawn w1 p.d) p.os from
      fun d os => Calls.regrown_of (fixed9_any _))
    have C2 := Lib.hid (show ∀ d os, Calls Try.prog 11 #[.agg #[.slice A1 L1 c1, .slice A2 L2 c2]] (grow (redrawn w1 d) os) fun e w'' => e = .returned (.agg #[.int .u8 r.1, .int .i64 r.2]) ∧ ∃ p : Regrown, w'' = grow (redrawn w1 p.d) p.os from
      fun d os => Calls.regrown_of (recipe_is _ _ _ x (HI1.out.isr.below (below_regrown w1 d os) (Nat.le_refl _)) r HRR.out))
    have C3 := Lib.hid (show ∀ d os, Calls Try.prog 12 #[.agg #[.slice A1 L1 c1, .slice A2 L2 c2]] (grow (redrawn w1 d) os) fun e w'' => e = .returned (.agg #[.int .u8 r.1, .int .i64 r.2]) ∧ ∃ p : Regrown, w'' = grow (redrawn w1 p.d) p.os from
      fun d os => Calls.regrown_of (refRecipe_is _ _ _ x (HI1.out.isr.below (below_regrown w1 d os) (Nat.le_refl _)) HL.out r HRR.out))
    clear hs hl hr
    go_wp2_with fail
    refine wp_region_quiet_below (by kernel_rfl) (by kernel_rfl) ?_
    repeat (go_big_quiet_step (first | (go_at_call 10; with_reducible exact C1.out _ _) | (go_at_call 11; with_reducible exact C2.out _ _) | (go_at_call 12; with_reducible exact C3.out _ _)))
    refine wpQuiet_nil ?_
    intro _ hw'
    obtain ⟨⟨dq, osq⟩, hw''⟩ := hw'
    subst hw''
    have HG := Lib.hid (HI1.out.bel.trans ((below_regrown w1 dq osq).mono HI1.out.bel.size))
    clear x0 x1
    go_wp2
    go_ret
    exact ⟨rfl, HG.out⟩
theorem checkRecipe_w (cs : List Value) (x : Rec) (w : World) (h : recK.is w cs x) :
    Calls Try.prog 3 #[.agg cs.toArray] w fun e w' => e = .returned (.bool true) ∧ Below w.heap.size w w' := by
  obtain ⟨v1, v2, rfl, h⟩ := h
  exact checkRecipe_any w v1 v2 x h
end Go.Proofs.Ytggejmojbebhfaa.Rc
