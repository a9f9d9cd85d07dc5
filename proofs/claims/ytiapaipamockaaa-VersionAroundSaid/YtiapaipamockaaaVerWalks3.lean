/- The law VersionTails. -/
import Derived.Test.YtiapaipamockaaaVerWalks2
import Derived.Test.YtiapaipamockaaaVerMath3
namespace Go.Proofs.Ytiapaipamockaaa.Ver
open Go.RowKit

theorem glued (h a : ByteArray) : (h ++ ⟨#[46]⟩ ++ a).data.toList = h.data.toList ++ 46 :: a.data.toList := by
  simp [ByteArray.data_append]

set_option maxHeartbeats 800000 in
theorem versionTails_any (h : ByteArray) (_hh : h.size ≤ maxLen) (a : ByteArray) (_ha : a.size ≤ maxLen) (b : ByteArray) (_hb : b.size ≤ maxLen) (w : World) :
    Calls Try.prog 7 #[.string h, .string a, .string b] w fun e w' => e = .returned (.bool true) ∧ Below w.heap.size w w' := by
  go_enter Try.func7, Try.ntmps7
  go_wp2_with fail
  refine (great3_any h a b w).mono ?_
  rintro e w1 ⟨rfl | ⟨rfl, s1, s2, s3⟩, h1⟩
  · go_wp2_with fail
    refine (fixed_any _).mono ?_
    rintro e w2 ⟨rfl, h2⟩
    go_wp2
    go_ret
    exact ⟨rfl, h1.trans (h2.mono h1.size)⟩
  go_wp2_with fail
  have gx := glued h a
  have gy := glued h b
  generalize h ++ ⟨#[46]⟩ ++ a = x at gx ⊢
  generalize h ++ ⟨#[46]⟩ ++ b = y at gy ⊢
  cases hx : may x.data.toList with
  | false =>
    have Hx := Lib.hid hx
    clear hx gx gy
    refine (refMay_is x _ Hx.out _).mono ?_
    rintro e w2 ⟨rfl, h2⟩
    go_wp2_with fail
    refine (fixed_any _).mono ?_
    rintro e w3 ⟨rfl, h3⟩
    go_wp2
    go_ret
    exact ⟨rfl, h1.trans ((h2.trans (h3.mono h2.size)).mono h1.size)⟩
  | true =>
    have Hx := Lib.hid hx
    cases hy : may y.data.toList with
    | false =>
      have Hy := Lib.hid hy
      clear hx hy gx gy
      refine (refMay_is x _ Hx.out _).mono ?_
      rintro e w2 ⟨rfl, h2⟩
      go_wp2_with fail
      refine (refMay_is y _ Hy.out _).mono ?_
      rintro e w3 ⟨rfl, h3⟩
      go_wp2_with fail
      refine (fixed_any _).mono ?_
      rintro e w4 ⟨rfl, h4⟩
      go_wp2
      go_ret
      exact ⟨rfl, h1.trans ((h2.trans ((h3.trans (h4.mono h3.size)).mono h2.size)).mono h1.size)⟩
    | true =>
      have Hy := Lib.hid hy
      have hc : compare x.data.toList y.data.toList = compare a.data.toList b.data.toList := by
        rw [gx] at hx ⊢; rw [gy] at hy ⊢; exact compare_tails hx hy
      have Hc := Lib.hid hc
      have H0 := Lib.hid (fun (w : World) => compare_is a b _ rfl w)
      obtain ⟨n, hn⟩ : ∃ n, compare a.data.toList b.data.toList = n := ⟨_, rfl⟩
      have Hn := Lib.hid hn
      have Hm := Lib.hid (hc.trans hn)
      clear hx hy gx gy hc hn Hc H0
      refine (refMay_is x _ Hx.out _).mono ?_
      rintro e w2 ⟨rfl, h2⟩
      go_wp2_with fail
      refine (refMay_is y _ Hy.out _).mono ?_
      rintro e w3 ⟨rfl, h3⟩
      go_wp2_with fail
      refine (fixed_any _).mono ?_
      rintro e w4 ⟨rfl, h4⟩
      go_wp2_with fail
      refine (compare_is x y _ Hm.out _).mono ?_
      rintro e w5 ⟨rfl, h5⟩
      go_wp2_with fail
      refine (compare_is a b _ Hn.out _).mono ?_
      rintro e w6 ⟨rfl, h6⟩
      go_wp2
      go_ret
      exact ⟨by simp, h1.trans ((h2.trans ((h3.trans ((h4.trans ((h5.trans (h6.mono h5.size)).mono h4.size)).mono h3.size)).mono h2.size)).mono h1.size)⟩

end Go.Proofs.Ytiapaipamockaaa.Ver
