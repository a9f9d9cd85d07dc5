/- The laws of layer 1: VersionMay, VersionCompare, VersionTails. -/
import Derived.Test.YtiapaipamockaaaVerRef5
namespace Go.Proofs.Ytiapaipamockaaa.Ver
open Go.RowKit

set_option maxHeartbeats 800000 in
theorem versionMay_any (s : ByteArray) (_hs : s.size ≤ maxLen) (w : World) :
    Calls Try.prog 3 #[.string s] w fun e w' => e = .returned (.bool true) ∧ Below w.heap.size w w' := by
  by_cases h3 : 3000 < s.size
  · have e1 : (3000 : Int) < s.size := by omega
    clear h3
    go_enter Try.func3, Try.ntmps3
    go_wp2_with fail
    refine (fixed_any _).mono ?_
    rintro e w1 ⟨rfl, h1⟩
    go_wp2
    go_ret
    exact ⟨rfl, h1⟩
  have e1 : ¬ (3000 : Int) < s.size := by omega
  have hs1 : s.size ≤ 1000000 := by omega
  clear h3
  cases hm : may s.data.toList with
  | false =>
    have Hm := Lib.hid hm
    have Hp := Lib.hid (show (partsOf s.data.toList).length = 0 by unfold partsOf; rw [hm]; rfl)
    clear hm
    go_enter Try.func3, Try.ntmps3
    go_wp2_with fail
    refine (parts_own s _).mono ?_
    rintro e w1 ⟨v, rfl, own, h1⟩
    obtain ⟨ao, cap, rfl, _⟩ := strAt_own own
    rw [Hp.out]
    clear own
    go_wp2_with fail
    refine (may_is s _ Hm.out _).mono ?_
    rintro e w2 ⟨rfl, h2⟩
    go_wp2_with fail
    refine (refMay_is s _ Hm.out _).mono ?_
    rintro e w3 ⟨rfl, h3⟩
    go_wp2_with fail
    refine (refMay_is s _ Hm.out _).mono ?_
    rintro e w4 ⟨rfl, h4⟩
    go_wp2_with fail
    refine (fixed_any _).mono ?_
    rintro e w5 ⟨rfl, h5⟩
    go_wp2
    go_ret
    exact ⟨rfl, h1.trans ((h2.trans ((h3.trans ((h4.trans (h5.mono h4.size)).mono h3.size)).mono h2.size)).mono h1.size)⟩
  | true =>
    have Hm := Lib.hid hm
    have hp : partsOf s.data.toList = cut 46 s.data.toList := by unfold partsOf; rw [hm]; rfl
    obtain ⟨xs, hxs⟩ : ∃ xs, cut 46 s.data.toList = xs := ⟨_, rfl⟩
    have hxn : xs.length ≤ 1000000 := by rw [← hxs]; have := cut_le 46 s.data.toList; rw [size_toList] at this; omega
    have hparts := fun w => parts_own s w
    have hcut := fun w => refCut_any s 46 46 rfl w hs1
    rw [hp, hxs] at hparts
    rw [hxs] at hcut
    have Hparts := Lib.hid hparts
    have Hcut := Lib.hid hcut
    clear hm hp hxs hparts hcut
    go_enter Try.func3, Try.ntmps3
    go_wp2_with fail
    refine (Hparts.out _).mono ?_
    rintro e w1 ⟨v, rfl, own, h1⟩
    have s1 := Lib.hid (strAt_own own)
    clear own
    go_wp2_with fail
    refine (may_is s _ Hm.out _).mono ?_
    rintro e w2 ⟨rfl, h2⟩
    go_wp2_with fail
    refine (refMay_is s _ Hm.out _).mono ?_
    rintro e w3 ⟨rfl, h3⟩
    go_wp2_with fail
    refine (refMay_is s _ Hm.out _).mono ?_
    rintro e w4 ⟨rfl, h4⟩
    go_wp2_with fail
    refine (fixed_any _).mono ?_
    rintro e w5 ⟨rfl, h5⟩
    go_wp2_with fail
    refine (Hcut.out _).mono ?_
    rintro e w6 ⟨v2, rfl, own2, h6⟩
    have hb : Below w1.heap.size w1 w6 := h2.trans ((h3.trans ((h4.trans ((h5.trans (h6.mono h5.size)).mono h4.size)).mono h3.size)).mono h2.size)
    have s2 := Lib.hid (strAt_own own2)
    clear own2
    have Hsame := Lib.hid (fun w h1 h2 => same_any xs xs v v2 w hxn h1 h2)
    go_wp2_with fail
    refine (Hsame.out _ (s1.out.below hb) s2.out).mono ?_
    rintro e w7 ⟨rfl, h7⟩
    go_wp2
    go_ret
    have hb2 : Below w.heap.size w w6 := h1.trans (hb.mono h1.size)
    exact ⟨by simp, hb2.trans (h7.mono hb2.size)⟩

end Go.Proofs.Ytiapaipamockaaa.Ver
