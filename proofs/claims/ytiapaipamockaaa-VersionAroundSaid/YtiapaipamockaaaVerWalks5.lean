/- The law VersionAround. -/
import Derived.Test.YtiapaipamockaaaVerWalks4
namespace Go.Proofs.Ytiapaipamockaaa.Ver
open Go.RowKit

theorem digits_is' (s : ByteArray) (b : Bool) (h : digits s.data.toList = b) (hs : s.size ≤ 1000000) (w : World) :
    Calls Try.prog 20 #[.string s] w fun e w' => e = .returned (.bool b) ∧ w = w' :=
  digits_is s b h w (by unfold maxLen; omega)

set_option maxHeartbeats 4000000 in
theorem versionAround_any (a : ByteArray) (_ha : a.size ≤ maxLen) (b : ByteArray) (_hb : b.size ≤ maxLen) (r : ByteArray) (_hr : r.size ≤ maxLen) (n : Int) (wn : (Lit.int .u32 n).wf = true) (w : World) :
    Calls Try.prog 6 #[.string a, .string b, .string r, .int .u32 n] w fun e w' => e = .returned (.bool true) ∧ Below w.heap.size w w' := by
  obtain ⟨n1, n2⟩ := bounds_u32 wn
  clear wn
  go_enter Try.func6, Try.ntmps6
  go_wp2_with fail
  refine (great3_any a b r w).mono ?_
  rintro e w1 ⟨rfl | ⟨rfl, s1, s2, s3⟩, h1⟩
  · go_wp2_with fail
    refine (fixed_any _).mono ?_
    rintro e w2 ⟨rfl, h2⟩
    go_wp2
    go_ret
    exact ⟨rfl, h1.trans (h2.mono h1.size)⟩
  obtain ⟨N, hN⟩ : ∃ N : Nat, n % 1000000000 = (N : Int) := ⟨(n % 1000000000).toNat, by omega⟩
  go_wp2_with fail
  rw [hN]
  have hN2 : N < 1000000000 := by omega
  clear hN
  refine (decimal_any N (by omega) _).mono ?_
  rintro e w2 ⟨d, rfl, hd, hds, h2⟩
  have Hd := Lib.hid hd
  have hds2 : d.size ≤ 1000000000 := by omega
  clear hd hds hN2
  go_wp2_with fail
  have gx := glued a r
  have gy := glued a d
  generalize a ++ ⟨#[46]⟩ ++ r = x at gx ⊢
  generalize a ++ ⟨#[46]⟩ ++ d = y at gy ⊢
  have Hlow : Hid (may a.data.toList = true → may x.data.toList = true → compare x.data.toList a.data.toList ≠ -1 → digits (hd (cut 46 r.data.toList)) = true) :=
    Lib.hid (by rw [gx]; exact around_low)
  have Hhigh : Hid (may a.data.toList = true → may y.data.toList = true → compare y.data.toList a.data.toList = 1) :=
    Lib.hid (by rw [gy]; exact fun h1 h2 => around_high h1 h2 Hd.out)
  clear gx gy Hd hds2
  obtain ⟨z, hz⟩ : ∃ z, compare a.data.toList b.data.toList = z := ⟨_, rfl⟩
  have hn := compare_anti a.data.toList b.data.toList
  have hr := compare_range a.data.toList b.data.toList
  rw [hz] at hn hr
  have Hz := Lib.hid hz
  have Hn := Lib.hid hn
  have Hr := Lib.hid hr
  clear hz hn hr
  have hb0 : Below w.heap.size w w2 := h1.trans (h2.mono h1.size)
  clear h1 h2
  cases hma : may a.data.toList with
  | false =>
    have Ha := Lib.hid hma
    clear hma Hlow Hhigh
    refine (refMay_is a _ Ha.out _).mono ?_
    rintro e w3 ⟨rfl, h3⟩
    go_wp2_with fail
    refine (refMay_is a _ Ha.out _).mono ?_
    rintro e w4 ⟨rfl, h4⟩
    have hb : Below w.heap.size w w4 := hb0.trans ((h3.trans (h4.mono h3.size)).mono hb0.size)
    clear hb0 h3 h4
    go_wp2_with fail
    refine (fixed_any _).mono ?_
    rintro e w8 ⟨rfl, h8⟩
    go_wp2_with fail
    rcases Hr.out with rfl | rfl | rfl
    · go_wp2_with fail
      refine (compare_is a b _ Hz.out _).mono ?_
      rintro e w9 ⟨rfl, h9⟩
      go_wp2_with fail
      refine (refMay_is a _ Ha.out _).mono ?_
      rintro e w10 ⟨rfl, h10⟩
      go_wp2
      go_ret
      exact ⟨rfl, hb.trans ((h8.trans ((h9.trans (h10.mono h9.size)).mono h8.size)).mono hb.size)⟩
    · go_wp2_with fail
      refine (compare_is a b _ Hz.out _).mono ?_
      rintro e w9 ⟨rfl, h9⟩
      go_wp2
      go_ret
      exact ⟨rfl, hb.trans ((h8.trans (h9.mono h8.size)).mono hb.size)⟩
    · go_wp2_with fail
      refine (compare_is a b _ Hz.out _).mono ?_
      rintro e w9 ⟨rfl, h9⟩
      go_wp2
      go_ret
      exact ⟨rfl, hb.trans ((h8.trans (h9.mono h8.size)).mono hb.size)⟩
  | true =>
    have Ha := Lib.hid hma
    have hlow := Hlow.out hma
    have hhigh := Hhigh.out hma
    have Hlow' := Lib.hid hlow
    have Hhigh' := Lib.hid hhigh
    clear hma Hlow Hhigh hlow hhigh
    refine (refMay_is a _ Ha.out _).mono ?_
    rintro e w3 ⟨rfl, h3⟩
    have hb3 : Below w.heap.size w w3 := hb0.trans (h3.mono hb0.size)
    clear hb0 h3
    go_wp2_with fail
    cases hmx : may x.data.toList with
    | false =>
      have Hmx := Lib.hid hmx
      clear hmx Hlow'
      refine (refMay_is x _ Hmx.out _).mono ?_
      rintro e w4 ⟨rfl, h4⟩
      have hb4 : Below w.heap.size w w4 := hb3.trans (h4.mono hb3.size)
      clear hb3 h4
      go_wp2_with fail
      refine (refMay_is a _ Ha.out _).mono ?_
      rintro e w5 ⟨rfl, h5⟩
      cases hmy : may y.data.toList with
      | false =>
        have Hmy := Lib.hid hmy
        clear hmy Hhigh'
        go_wp2_with fail
        refine (refMay_is y _ Hmy.out _).mono ?_
        rintro e w6 ⟨rfl, h6⟩
        have hb : Below w.heap.size w w6 := hb4.trans ((h5.trans (h6.mono h5.size)).mono hb4.size)
        clear hb4 h5 h6
        go_wp2_with fail
        refine (fixed_any _).mono ?_
        rintro e w8 ⟨rfl, h8⟩
        go_wp2_with fail
        rcases Hr.out with rfl | rfl | rfl
        · go_wp2_with fail
          refine (compare_is a b _ Hz.out _).mono ?_
          rintro e w9 ⟨rfl, h9⟩
          go_wp2_with fail
          refine (refMay_is a _ Ha.out _).mono ?_
          rintro e w10 ⟨rfl, h10⟩
          cases hmb : may b.data.toList with
          | false =>
            have Hmb := Lib.hid hmb
            clear hmb
            go_wp2_with fail
            refine (refMay_is b _ Hmb.out _).mono ?_
            rintro e w11 ⟨rfl, h11⟩
            go_wp2
            go_ret
            exact ⟨rfl, hb.trans ((h8.trans ((h9.trans ((h10.trans (h11.mono h10.size)).mono h9.size)).mono h8.size)).mono hb.size)⟩
          | true =>
            have Hmb := Lib.hid hmb
            clear hmb
            go_wp2_with fail
            refine (refMay_is b _ Hmb.out _).mono ?_
            rintro e w11 ⟨rfl, h11⟩
            go_wp2_with fail
            refine (compare_is b a _ Hn.out _).mono ?_
            rintro e w12 ⟨rfl, h12⟩
            go_wp2
            go_ret
            exact ⟨rfl, hb.trans ((h8.trans ((h9.trans ((h10.trans ((h11.trans (h12.mono h11.size)).mono h10.size)).mono h9.size)).mono h8.size)).mono hb.size)⟩
        · go_wp2_with fail
          refine (compare_is a b _ Hz.out _).mono ?_
          rintro e w9 ⟨rfl, h9⟩
          go_wp2
          go_ret
          exact ⟨rfl, hb.trans ((h8.trans (h9.mono h8.size)).mono hb.size)⟩
        · go_wp2_with fail
          refine (compare_is a b _ Hz.out _).mono ?_
          rintro e w9 ⟨rfl, h9⟩
          go_wp2
          go_ret
          exact ⟨rfl, hb.trans ((h8.trans (h9.mono h8.size)).mono hb.size)⟩
      | true =>
        have Hmy := Lib.hid hmy
        have Hyc := Lib.hid (Hhigh'.out hmy)
        clear hmy Hhigh'
        go_wp2_with fail
        refine (refMay_is y _ Hmy.out _).mono ?_
        rintro e w6 ⟨rfl, h6⟩
        go_wp2_with fail
        refine (compare_is y a _ Hyc.out _).mono ?_
        rintro e w7 ⟨rfl, h7⟩
        have hb : Below w.heap.size w w7 := hb4.trans ((h5.trans ((h6.trans (h7.mono h6.size)).mono h5.size)).mono hb4.size)
        clear hb4 h5 h6 h7
        go_wp2_with fail
        refine (fixed_any _).mono ?_
        rintro e w8 ⟨rfl, h8⟩
        go_wp2_with fail
        rcases Hr.out with rfl | rfl | rfl
        · go_wp2_with fail
          refine (compare_is a b _ Hz.out _).mono ?_
          rintro e w9 ⟨rfl, h9⟩
          go_wp2_with fail
          refine (refMay_is a _ Ha.out _).mono ?_
          rintro e w10 ⟨rfl, h10⟩
          cases hmb : may b.data.toList with
          | false =>
            have Hmb := Lib.hid hmb
            clear hmb
            go_wp2_with fail
            refine (refMay_is b _ Hmb.out _).mono ?_
            rintro e w11 ⟨rfl, h11⟩
            go_wp2
            go_ret
            exact ⟨rfl, hb.trans ((h8.trans ((h9.trans ((h10.trans (h11.mono h10.size)).mono h9.size)).mono h8.size)).mono hb.size)⟩
          | true =>
            have Hmb := Lib.hid hmb
            clear hmb
            go_wp2_with fail
            refine (refMay_is b _ Hmb.out _).mono ?_
            rintro e w11 ⟨rfl, h11⟩
            go_wp2_with fail
            refine (compare_is b a _ Hn.out _).mono ?_
            rintro e w12 ⟨rfl, h12⟩
            go_wp2
            go_ret
            exact ⟨rfl, hb.trans ((h8.trans ((h9.trans ((h10.trans ((h11.trans (h12.mono h11.size)).mono h10.size)).mono h9.size)).mono h8.size)).mono hb.size)⟩
        · go_wp2_with fail
          refine (compare_is a b _ Hz.out _).mono ?_
          rintro e w9 ⟨rfl, h9⟩
          go_wp2
          go_ret
          exact ⟨rfl, hb.trans ((h8.trans (h9.mono h8.size)).mono hb.size)⟩
        · go_wp2_with fail
          refine (compare_is a b _ Hz.out _).mono ?_
          rintro e w9 ⟨rfl, h9⟩
          go_wp2
          go_ret
          exact ⟨rfl, hb.trans ((h8.trans (h9.mono h8.size)).mono hb.size)⟩
    | true =>
      have Hmx := Lib.hid hmx
      have Hlow2 := Lib.hid (Hlow'.out hmx)
      clear hmx Hlow'
      refine (refMay_is x _ Hmx.out _).mono ?_
      rintro e w4a ⟨rfl, h4⟩
      have hb4a : Below w.heap.size w w4a := hb3.trans (h4.mono hb3.size)
      clear hb3 h4
      go_wp2_with fail
      cases hdr : digits r.data.toList with
      | true =>
        have Hdr := Lib.hid hdr
        clear hdr Hlow2
        refine (digits_is' r _ Hdr.out (by omega) _).mono ?_
        rintro e w4 ⟨rfl, rfl⟩
        have hb4 := hb4a
        clear hb4a
        go_wp2_with fail
        refine (refMay_is a _ Ha.out _).mono ?_
        rintro e w5 ⟨rfl, h5⟩
        cases hmy : may y.data.toList with
        | false =>
          have Hmy := Lib.hid hmy
          clear hmy Hhigh'
          go_wp2_with fail
          refine (refMay_is y _ Hmy.out _).mono ?_
          rintro e w6 ⟨rfl, h6⟩
          have hb : Below w.heap.size w w6 := hb4.trans ((h5.trans (h6.mono h5.size)).mono hb4.size)
          clear hb4 h5 h6
          go_wp2_with fail
          refine (fixed_any _).mono ?_
          rintro e w8 ⟨rfl, h8⟩
          go_wp2_with fail
          rcases Hr.out with rfl | rfl | rfl
          · go_wp2_with fail
            refine (compare_is a b _ Hz.out _).mono ?_
            rintro e w9 ⟨rfl, h9⟩
            go_wp2_with fail
            refine (refMay_is a _ Ha.out _).mono ?_
            rintro e w10 ⟨rfl, h10⟩
            cases hmb : may b.data.toList with
            | false =>
              have Hmb := Lib.hid hmb
              clear hmb
              go_wp2_with fail
              refine (refMay_is b _ Hmb.out _).mono ?_
              rintro e w11 ⟨rfl, h11⟩
              go_wp2
              go_ret
              exact ⟨rfl, hb.trans ((h8.trans ((h9.trans ((h10.trans (h11.mono h10.size)).mono h9.size)).mono h8.size)).mono hb.size)⟩
            | true =>
              have Hmb := Lib.hid hmb
              clear hmb
              go_wp2_with fail
              refine (refMay_is b _ Hmb.out _).mono ?_
              rintro e w11 ⟨rfl, h11⟩
              go_wp2_with fail
              refine (compare_is b a _ Hn.out _).mono ?_
              rintro e w12 ⟨rfl, h12⟩
              go_wp2
              go_ret
              exact ⟨rfl, hb.trans ((h8.trans ((h9.trans ((h10.trans ((h11.trans (h12.mono h11.size)).mono h10.size)).mono h9.size)).mono h8.size)).mono hb.size)⟩
          · go_wp2_with fail
            refine (compare_is a b _ Hz.out _).mono ?_
            rintro e w9 ⟨rfl, h9⟩
            go_wp2
            go_ret
            exact ⟨rfl, hb.trans ((h8.trans (h9.mono h8.size)).mono hb.size)⟩
          · go_wp2_with fail
            refine (compare_is a b _ Hz.out _).mono ?_
            rintro e w9 ⟨rfl, h9⟩
            go_wp2
            go_ret
            exact ⟨rfl, hb.trans ((h8.trans (h9.mono h8.size)).mono hb.size)⟩
        | true =>
          have Hmy := Lib.hid hmy
          have Hyc := Lib.hid (Hhigh'.out hmy)
          clear hmy Hhigh'
          go_wp2_with fail
          refine (refMay_is y _ Hmy.out _).mono ?_
          rintro e w6 ⟨rfl, h6⟩
          go_wp2_with fail
          refine (compare_is y a _ Hyc.out _).mono ?_
          rintro e w7 ⟨rfl, h7⟩
          have hb : Below w.heap.size w w7 := hb4.trans ((h5.trans ((h6.trans (h7.mono h6.size)).mono h5.size)).mono hb4.size)
          clear hb4 h5 h6 h7
          go_wp2_with fail
          refine (fixed_any _).mono ?_
          rintro e w8 ⟨rfl, h8⟩
          go_wp2_with fail
          rcases Hr.out with rfl | rfl | rfl
          · go_wp2_with fail
            refine (compare_is a b _ Hz.out _).mono ?_
            rintro e w9 ⟨rfl, h9⟩
            go_wp2_with fail
            refine (refMay_is a _ Ha.out _).mono ?_
            rintro e w10 ⟨rfl, h10⟩
            cases hmb : may b.data.toList with
            | false =>
              have Hmb := Lib.hid hmb
              clear hmb
              go_wp2_with fail
              refine (refMay_is b _ Hmb.out _).mono ?_
              rintro e w11 ⟨rfl, h11⟩
              go_wp2
              go_ret
              exact ⟨rfl, hb.trans ((h8.trans ((h9.trans ((h10.trans (h11.mono h10.size)).mono h9.size)).mono h8.size)).mono hb.size)⟩
            | true =>
              have Hmb := Lib.hid hmb
              clear hmb
              go_wp2_with fail
              refine (refMay_is b _ Hmb.out _).mono ?_
              rintro e w11 ⟨rfl, h11⟩
              go_wp2_with fail
              refine (compare_is b a _ Hn.out _).mono ?_
              rintro e w12 ⟨rfl, h12⟩
              go_wp2
              go_ret
              exact ⟨rfl, hb.trans ((h8.trans ((h9.trans ((h10.trans ((h11.trans (h12.mono h11.size)).mono h10.size)).mono h9.size)).mono h8.size)).mono hb.size)⟩
          · go_wp2_with fail
            refine (compare_is a b _ Hz.out _).mono ?_
            rintro e w9 ⟨rfl, h9⟩
            go_wp2
            go_ret
            exact ⟨rfl, hb.trans ((h8.trans (h9.mono h8.size)).mono hb.size)⟩
          · go_wp2_with fail
            refine (compare_is a b _ Hz.out _).mono ?_
            rintro e w9 ⟨rfl, h9⟩
            go_wp2
            go_ret
            exact ⟨rfl, hb.trans ((h8.trans (h9.mono h8.size)).mono hb.size)⟩
      | false =>
        have Hdr := Lib.hid hdr
        clear hdr
        refine (digits_is' r _ Hdr.out (by omega) _).mono ?_
        rintro e w4 ⟨rfl, rfl⟩
        go_wp2_with fail
        by_cases hc : compare x.data.toList a.data.toList = -1
        · have Hc := Lib.hid hc
          clear hc Hlow2
          refine (compare_is x a _ Hc.out _).mono ?_
          rintro e w4 ⟨rfl, h4⟩
          have hb4 : Below w.heap.size w w4 := hb4a.trans (h4.mono hb4a.size)
          clear hb4a h4
          go_wp2_with fail
          refine (refMay_is a _ Ha.out _).mono ?_
          rintro e w5 ⟨rfl, h5⟩
          cases hmy : may y.data.toList with
          | false =>
            have Hmy := Lib.hid hmy
            clear hmy Hhigh'
            go_wp2_with fail
            refine (refMay_is y _ Hmy.out _).mono ?_
            rintro e w6 ⟨rfl, h6⟩
            have hb : Below w.heap.size w w6 := hb4.trans ((h5.trans (h6.mono h5.size)).mono hb4.size)
            clear hb4 h5 h6
            go_wp2_with fail
            refine (fixed_any _).mono ?_
            rintro e w8 ⟨rfl, h8⟩
            go_wp2_with fail
            rcases Hr.out with rfl | rfl | rfl
            · go_wp2_with fail
              refine (compare_is a b _ Hz.out _).mono ?_
              rintro e w9 ⟨rfl, h9⟩
              go_wp2_with fail
              refine (refMay_is a _ Ha.out _).mono ?_
              rintro e w10 ⟨rfl, h10⟩
              cases hmb : may b.data.toList with
              | false =>
                have Hmb := Lib.hid hmb
                clear hmb
                go_wp2_with fail
                refine (refMay_is b _ Hmb.out _).mono ?_
                rintro e w11 ⟨rfl, h11⟩
                go_wp2
                go_ret
                exact ⟨rfl, hb.trans ((h8.trans ((h9.trans ((h10.trans (h11.mono h10.size)).mono h9.size)).mono h8.size)).mono hb.size)⟩
              | true =>
                have Hmb := Lib.hid hmb
                clear hmb
                go_wp2_with fail
                refine (refMay_is b _ Hmb.out _).mono ?_
                rintro e w11 ⟨rfl, h11⟩
                go_wp2_with fail
                refine (compare_is b a _ Hn.out _).mono ?_
                rintro e w12 ⟨rfl, h12⟩
                go_wp2
                go_ret
                exact ⟨rfl, hb.trans ((h8.trans ((h9.trans ((h10.trans ((h11.trans (h12.mono h11.size)).mono h10.size)).mono h9.size)).mono h8.size)).mono hb.size)⟩
            · go_wp2_with fail
              refine (compare_is a b _ Hz.out _).mono ?_
              rintro e w9 ⟨rfl, h9⟩
              go_wp2
              go_ret
              exact ⟨rfl, hb.trans ((h8.trans (h9.mono h8.size)).mono hb.size)⟩
            · go_wp2_with fail
              refine (compare_is a b _ Hz.out _).mono ?_
              rintro e w9 ⟨rfl, h9⟩
              go_wp2
              go_ret
              exact ⟨rfl, hb.trans ((h8.trans (h9.mono h8.size)).mono hb.size)⟩
          | true =>
            have Hmy := Lib.hid hmy
            have Hyc := Lib.hid (Hhigh'.out hmy)
            clear hmy Hhigh'
            go_wp2_with fail
            refine (refMay_is y _ Hmy.out _).mono ?_
            rintro e w6 ⟨rfl, h6⟩
            go_wp2_with fail
            refine (compare_is y a _ Hyc.out _).mono ?_
            rintro e w7 ⟨rfl, h7⟩
            have hb : Below w.heap.size w w7 := hb4.trans ((h5.trans ((h6.trans (h7.mono h6.size)).mono h5.size)).mono hb4.size)
            clear hb4 h5 h6 h7
            go_wp2_with fail
            refine (fixed_any _).mono ?_
            rintro e w8 ⟨rfl, h8⟩
            go_wp2_with fail
            rcases Hr.out with rfl | rfl | rfl
            · go_wp2_with fail
              refine (compare_is a b _ Hz.out _).mono ?_
              rintro e w9 ⟨rfl, h9⟩
              go_wp2_with fail
              refine (refMay_is a _ Ha.out _).mono ?_
              rintro e w10 ⟨rfl, h10⟩
              cases hmb : may b.data.toList with
              | false =>
                have Hmb := Lib.hid hmb
                clear hmb
                go_wp2_with fail
                refine (refMay_is b _ Hmb.out _).mono ?_
                rintro e w11 ⟨rfl, h11⟩
                go_wp2
                go_ret
                exact ⟨rfl, hb.trans ((h8.trans ((h9.trans ((h10.trans (h11.mono h10.size)).mono h9.size)).mono h8.size)).mono hb.size)⟩
              | true =>
                have Hmb := Lib.hid hmb
                clear hmb
                go_wp2_with fail
                refine (refMay_is b _ Hmb.out _).mono ?_
                rintro e w11 ⟨rfl, h11⟩
                go_wp2_with fail
                refine (compare_is b a _ Hn.out _).mono ?_
                rintro e w12 ⟨rfl, h12⟩
                go_wp2
                go_ret
                exact ⟨rfl, hb.trans ((h8.trans ((h9.trans ((h10.trans ((h11.trans (h12.mono h11.size)).mono h10.size)).mono h9.size)).mono h8.size)).mono hb.size)⟩
            · go_wp2_with fail
              refine (compare_is a b _ Hz.out _).mono ?_
              rintro e w9 ⟨rfl, h9⟩
              go_wp2
              go_ret
              exact ⟨rfl, hb.trans ((h8.trans (h9.mono h8.size)).mono hb.size)⟩
            · go_wp2_with fail
              refine (compare_is a b _ Hz.out _).mono ?_
              rintro e w9 ⟨rfl, h9⟩
              go_wp2
              go_ret
              exact ⟨rfl, hb.trans ((h8.trans (h9.mono h8.size)).mono hb.size)⟩
        · obtain ⟨cc, hcc⟩ : ∃ cc, compare x.data.toList a.data.toList = cc := ⟨_, rfl⟩
          have hne : (cc == -1) = false := by rw [beq_eq_false_iff_ne, ← hcc]; exact hc
          have Hcc := Lib.hid hcc
          have hl0 := Hlow2.out hc
          obtain ⟨qs, hqs⟩ : ∃ qs, cut 46 r.data.toList = qs := ⟨_, rfl⟩
          have hcut := fun w => refCut_any r 46 46 rfl w (by omega)
          rw [hqs] at hl0 hcut
          have hq1 : 0 < qs.length := by
            cases qs with
            | nil => exact absurd hqs (cut_ne 46 _)
            | cons a b => simp
          have hq0 : hd qs = nth qs 0 := by cases qs <;> rfl
          have hql : (nth qs 0).length ≤ 1000000 := by
            rw [nth_lt hq1]
            have := ref_part_le 46 r.data.toList qs[0] (by rw [hqs]; exact List.getElem_mem _)
            rw [size_toList] at this; omega
          rw [hq0] at hl0
          have Hl0 := Lib.hid hl0
          have Hcut := Lib.hid hcut
          clear hc hcc hl0 hcut hq0 hqs Hlow2
          refine (compare_is x a _ Hcc.out _).mono ?_
          rintro e w4b ⟨rfl, h4⟩
          go_wp2_with fail
          refine (Hcut.out _).mono ?_
          rintro e w4 ⟨v, rfl, own, h4b⟩
          have hb4 : Below w.heap.size w w4 := hb4a.trans ((h4.trans (h4b.mono h4.size)).mono hb4a.size)
          obtain ⟨ao, cap, rfl, fx⟩ := strAt_own own
          obtain ⟨bx, ox, rfl, _, gx⟩ := fx hq1
          have hcell := gx 0 hq1
          rw [Nat.add_zero] at hcell
          have hq1' : (0 : Int) < qs.length := by omega
          clear hb4a h4 h4b own fx gx
          go_wp2_with fail
          refine (digits_at _ _ Hl0.out hql _).mono ?_
          rintro e w' ⟨rfl, rfl⟩
          go_wp2_with fail
          refine (refMay_is a _ Ha.out _).mono ?_
          rintro e w5 ⟨rfl, h5⟩
          cases hmy : may y.data.toList with
          | false =>
            have Hmy := Lib.hid hmy
            clear hmy Hhigh'
            go_wp2_with fail
            refine (refMay_is y _ Hmy.out _).mono ?_
            rintro e w6 ⟨rfl, h6⟩
            have hb : Below w.heap.size w w6 := hb4.trans ((h5.trans (h6.mono h5.size)).mono hb4.size)
            clear hb4 h5 h6
            go_wp2_with fail
            refine (fixed_any _).mono ?_
            rintro e w8 ⟨rfl, h8⟩
            go_wp2_with fail
            rcases Hr.out with rfl | rfl | rfl
            · go_wp2_with fail
              refine (compare_is a b _ Hz.out _).mono ?_
              rintro e w9 ⟨rfl, h9⟩
              go_wp2_with fail
              refine (refMay_is a _ Ha.out _).mono ?_
              rintro e w10 ⟨rfl, h10⟩
              cases hmb : may b.data.toList with
              | false =>
                have Hmb := Lib.hid hmb
                clear hmb
                go_wp2_with fail
                refine (refMay_is b _ Hmb.out _).mono ?_
                rintro e w11 ⟨rfl, h11⟩
                go_wp2
                go_ret
                exact ⟨rfl, hb.trans ((h8.trans ((h9.trans ((h10.trans (h11.mono h10.size)).mono h9.size)).mono h8.size)).mono hb.size)⟩
              | true =>
                have Hmb := Lib.hid hmb
                clear hmb
                go_wp2_with fail
                refine (refMay_is b _ Hmb.out _).mono ?_
                rintro e w11 ⟨rfl, h11⟩
                go_wp2_with fail
                refine (compare_is b a _ Hn.out _).mono ?_
                rintro e w12 ⟨rfl, h12⟩
                go_wp2
                go_ret
                exact ⟨rfl, hb.trans ((h8.trans ((h9.trans ((h10.trans ((h11.trans (h12.mono h11.size)).mono h10.size)).mono h9.size)).mono h8.size)).mono hb.size)⟩
            · go_wp2_with fail
              refine (compare_is a b _ Hz.out _).mono ?_
              rintro e w9 ⟨rfl, h9⟩
              go_wp2
              go_ret
              exact ⟨rfl, hb.trans ((h8.trans (h9.mono h8.size)).mono hb.size)⟩
            · go_wp2_with fail
              refine (compare_is a b _ Hz.out _).mono ?_
              rintro e w9 ⟨rfl, h9⟩
              go_wp2
              go_ret
              exact ⟨rfl, hb.trans ((h8.trans (h9.mono h8.size)).mono hb.size)⟩
          | true =>
            have Hmy := Lib.hid hmy
            have Hyc := Lib.hid (Hhigh'.out hmy)
            clear hmy Hhigh'
            go_wp2_with fail
            refine (refMay_is y _ Hmy.out _).mono ?_
            rintro e w6 ⟨rfl, h6⟩
            go_wp2_with fail
            refine (compare_is y a _ Hyc.out _).mono ?_
            rintro e w7 ⟨rfl, h7⟩
            have hb : Below w.heap.size w w7 := hb4.trans ((h5.trans ((h6.trans (h7.mono h6.size)).mono h5.size)).mono hb4.size)
            clear hb4 h5 h6 h7
            go_wp2_with fail
            refine (fixed_any _).mono ?_
            rintro e w8 ⟨rfl, h8⟩
            go_wp2_with fail
            rcases Hr.out with rfl | rfl | rfl
            · go_wp2_with fail
              refine (compare_is a b _ Hz.out _).mono ?_
              rintro e w9 ⟨rfl, h9⟩
              go_wp2_with fail
              refine (refMay_is a _ Ha.out _).mono ?_
              rintro e w10 ⟨rfl, h10⟩
              cases hmb : may b.data.toList with
              | false =>
                have Hmb := Lib.hid hmb
                clear hmb
                go_wp2_with fail
                refine (refMay_is b _ Hmb.out _).mono ?_
                rintro e w11 ⟨rfl, h11⟩
                go_wp2
                go_ret
                exact ⟨rfl, hb.trans ((h8.trans ((h9.trans ((h10.trans (h11.mono h10.size)).mono h9.size)).mono h8.size)).mono hb.size)⟩
              | true =>
                have Hmb := Lib.hid hmb
                clear hmb
                go_wp2_with fail
                refine (refMay_is b _ Hmb.out _).mono ?_
                rintro e w11 ⟨rfl, h11⟩
                go_wp2_with fail
                refine (compare_is b a _ Hn.out _).mono ?_
                rintro e w12 ⟨rfl, h12⟩
                go_wp2
                go_ret
                exact ⟨rfl, hb.trans ((h8.trans ((h9.trans ((h10.trans ((h11.trans (h12.mono h11.size)).mono h10.size)).mono h9.size)).mono h8.size)).mono hb.size)⟩
            · go_wp2_with fail
              refine (compare_is a b _ Hz.out _).mono ?_
              rintro e w9 ⟨rfl, h9⟩
              go_wp2
              go_ret
              exact ⟨rfl, hb.trans ((h8.trans (h9.mono h8.size)).mono hb.size)⟩
            · go_wp2_with fail
              refine (compare_is a b _ Hz.out _).mono ?_
              rintro e w9 ⟨rfl, h9⟩
              go_wp2
              go_ret
              exact ⟨rfl, hb.trans ((h8.trans (h9.mono h8.size)).mono hb.size)⟩

end Go.Proofs.Ytiapaipamockaaa.Ver
