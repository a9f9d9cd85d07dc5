/- VariantNames' walk. -/
import Derived.Test.YtbdceeecngibmaaVaFixed
namespace Go.Proofs.Ytbdceeecngibmaa.Va
open Go.RowKit

theorem refValue_is (s : ByteArray) (b : Bool) (h : valB s.data.toList = b) (w : World) (hs : s.size ≤ maxLen) :
    Calls Try.prog 12 #[.string s] w fun e w' => e = .returned (.bool b) ∧ w = w' := by subst h; exact refValue_any s w hs

set_option maxHeartbeats 800000 in
theorem variantNames_any (s : ByteArray) (hs : s.size ≤ maxLen) (w : World) :
    Calls Try.prog 3 #[.string s] w fun e w' => e = .returned (.bool true) ∧ Below w.heap.size w w' := by
  by_cases h : 3000 < s.size
  · have h' : (3000 : Int) < (s.size : Int) := by omega
    go_enter Try.func3, Try.ntmps3
    go_wp2_with fail
    refine (fixed_any _).mono ?_
    rintro e w1 ⟨rfl, hb⟩
    go_wp2
    go_ret
    exact ⟨rfl, hb⟩
  · have h' : ¬ (3000 : Int) < (s.size : Int) := by omega
    obtain ⟨b1, h1⟩ : ∃ b, nameB s.data.toList = b := ⟨_, rfl⟩
    obtain ⟨b2, h2⟩ : ∃ b, valB s.data.toList = b := ⟨_, rfl⟩
    have H1 := Lib.hid h1
    have H2 := Lib.hid h2
    clear h1 h2
    have e1 : (b1 == b1) = true := by simp
    have e2 : (b2 == b2) = true := by simp
    go_enter Try.func3, Try.ntmps3
    go_wp2_with (first | (go_at_call 8; refine (fixed_any _).mono ?_; rintro e w1 ⟨rfl, hb⟩) | (go_at_call 9; refine (name_is _ b1 H1.out _).mono ?_; rintro e w' ⟨rfl, rfl⟩) | (go_at_call 10; refine (refName_is _ b1 H1.out _).mono ?_; rintro e w' ⟨rfl, rfl⟩) | (go_at_call 11; refine (value_is _ b2 H2.out _ hs).mono ?_; rintro e w' ⟨rfl, rfl⟩) | (go_at_call 12; refine (refValue_is _ b2 H2.out _ hs).mono ?_; rintro e w' ⟨rfl, rfl⟩))
    go_ret
    exact ⟨by simp, hb⟩

end Go.Proofs.Ytbdceeecngibmaa.Va
