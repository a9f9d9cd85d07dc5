/- ref.before, ref.Less, ref.Compare, ref.Great, ref.Same. -/
import Derived.Test.YtdijkekglaimfaaGreatDoorVerRef3
import Derived.Test.YtdijkekglaimfaaGreatDoorVerMath2
namespace Go.Proofs.YtdijkekglaimfaaGreatDoor.Ver
open Go.RowKit

theorem size_mk (p : Bs) : (⟨p.toArray⟩ : ByteArray).size = p.length := by show p.toArray.size = _; simp
theorem toList_mk (p : Bs) : (⟨p.toArray⟩ : ByteArray).toList = p := by rw [Lib.toList_data]
theorem letters_at (p : Bs) (b : Bool) (h : word p = b) (hp : p.length ≤ 1000000) (w : World) :
    Calls Tryz.prog 70 #[.string ⟨p.toArray⟩] w fun e w' => e = .returned (.bool b) ∧ w = w' :=
  letters_is ⟨p.toArray⟩ b h w (by rw [size_mk]; unfold maxLen; omega)
theorem digits_at (p : Bs) (b : Bool) (h : digits p = b) (hp : p.length ≤ 1000000) (w : World) :
    Calls Tryz.prog 71 #[.string ⟨p.toArray⟩] w fun e w' => e = .returned (.bool b) ∧ w = w' :=
  digits_is ⟨p.toArray⟩ b h w (by rw [size_mk]; unfold maxLen; omega)

set_option maxHeartbeats 1000000 in
theorem before_any (p q : Bs) (w : World) (hp : p.length ≤ 1000000) (hq : q.length ≤ 1000000) :
    Calls Tryz.prog 72 #[.string ⟨p.toArray⟩, .string ⟨q.toArray⟩] w fun e w' => e = .returned (.bool (before p q)) ∧ w = w' := by
  obtain ⟨a, ha⟩ : ∃ a : ByteArray, a = ⟨p.toArray⟩ := ⟨_, rfl⟩
  obtain ⟨b, hb⟩ : ∃ b : ByteArray, b = ⟨q.toArray⟩ := ⟨_, rfl⟩
  have hta : a.toList = p := by rw [ha, toList_mk]
  have htb : b.toList = q := by rw [hb, toList_mk]
  have hla : a.size = p.length := by rw [ha, size_mk]
  have hlb : b.size = q.length := by rw [hb, size_mk]
  have hwa : a.data.toList = p := by rw [← Lib.toList_data]; exact hta
  have hwb : b.data.toList = q := by rw [← Lib.toList_data]; exact htb
  have hsa : a.size ≤ maxLen := by unfold maxLen; omega
  have hsb : b.size ≤ maxLen := by unfold maxLen; omega
  rw [← ha, ← hb]
  unfold before
  by_cases h : p = q
  · rw [if_pos h]
    have e1 : (a.toList == b.toList) = true := by rw [hta, htb, h]; simp
    clear ha hb hta htb hla hlb hwa hwb h
    go_enter Tryz.func72, Tryz.ntmps72
    go_wp2
    go_ret
    exact ⟨rfl, rfl⟩
  rw [if_neg h]
  have e1 : (a.toList == b.toList) = false := by rw [hta, htb]; simpa using h
  have e1' : ¬ a.toList = b.toList := by rw [hta, htb]; exact h
  by_cases h1 : p = []
  · rw [if_pos h1]
    have e2 : a.toList = [] := by rw [hta, h1]
    have e3 : a.toList.isEmpty = true := by rw [hta, h1]; rfl
    have e4 : b.toList.isEmpty = false := by rw [htb]; cases q with | nil => exact absurd h1 h | cons _ _ => rfl
    have Hd := Lib.hid (show digits b.data.toList = digits q by rw [hwb])
    clear ha hb hta htb hla hlb hwa hwb h h1
    go_enter Tryz.func72, Tryz.ntmps72
    go_wp2_with fail
    refine (digits_is b _ Hd.out _ hsb).mono ?_
    rintro e w' ⟨rfl, rfl⟩
    go_wp2
    go_ret
    exact ⟨rfl, rfl⟩
  rw [if_neg h1]
  have e2 : a.toList.isEmpty = false := by rw [hta]; cases p with | nil => exact absurd rfl h1 | cons _ _ => rfl
  by_cases h2 : q = []
  · rw [if_pos h2]
    have e3 : b.toList = [] := by rw [htb, h2]
    have e4 : b.toList.isEmpty = true := by rw [htb, h2]; rfl
    have Hd := Lib.hid (show word a.data.toList = word p by rw [hwa])
    clear ha hb hta htb hla hlb hwa hwb h h1 h2
    go_enter Tryz.func72, Tryz.ntmps72
    go_wp2_with fail
    refine (letters_is a _ Hd.out _ hsa).mono ?_
    rintro e w' ⟨rfl, rfl⟩
    go_wp2
    go_ret
    exact ⟨rfl, rfl⟩
  rw [if_neg h2]
  have e3 : b.toList.isEmpty = false := by rw [htb]; cases q with | nil => exact absurd rfl h2 | cons _ _ => rfl
  obtain ⟨x, hx⟩ : ∃ x, word p = x := ⟨_, rfl⟩
  obtain ⟨y, hy⟩ : ∃ y, word q = y := ⟨_, rfl⟩
  have Hx := Lib.hid (show word a.data.toList = x by rw [hwa, hx])
  have Hy := Lib.hid (show word b.data.toList = y by rw [hwb, hy])
  rw [hx, hy]
  by_cases h3 : x = y
  · rw [if_neg (by simpa using h3)]
    have e5 : (x == y) = true := by rw [h3]; simp
    obtain ⟨d, hd⟩ : ∃ d, digits p = d := ⟨_, rfl⟩
    have Hd := Lib.hid (show digits a.data.toList = d by rw [hwa, hd])
    rw [hd]
    cases d with
    | false =>
      rw [if_neg (by simp)]
      have Hl := Lib.hid (show Op.bytesLess p q = Op.bytesLess a.toList b.toList by rw [hta, htb])
      clear ha hb hta htb hla hlb hwa hwb h h1 h2 h3 hx hy hd
      go_enter Tryz.func72, Tryz.ntmps72
      go_wp2_with fail
      refine (letters_is a _ Hx.out _ hsa).mono ?_
      rintro e w' ⟨rfl, rfl⟩
      go_wp2_with fail
      refine (letters_is b _ Hy.out _ hsb).mono ?_
      rintro e w' ⟨rfl, rfl⟩
      go_wp2_with fail
      refine (digits_is a _ Hd.out _ hsa).mono ?_
      rintro e w' ⟨rfl, rfl⟩
      go_wp2
      go_ret
      exact ⟨by rw [Hl.out]; rfl, rfl⟩
    | true =>
      by_cases hl : p.length = q.length
      · rw [if_neg (fun c => c.2 hl)]
        have e6 : ((a.size : Int) != (b.size : Int)) = false := by rw [hla, hlb, hl]; simp
        have Hl := Lib.hid (show Op.bytesLess p q = Op.bytesLess a.toList b.toList by rw [hta, htb])
        clear ha hb hta htb hla hlb hwa hwb h h1 h2 h3 hx hy hd hl
        go_enter Tryz.func72, Tryz.ntmps72
        go_wp2_with fail
        refine (letters_is a _ Hx.out _ hsa).mono ?_
        rintro e w' ⟨rfl, rfl⟩
        go_wp2_with fail
        refine (letters_is b _ Hy.out _ hsb).mono ?_
        rintro e w' ⟨rfl, rfl⟩
        go_wp2_with fail
        refine (digits_is a _ Hd.out _ hsa).mono ?_
        rintro e w' ⟨rfl, rfl⟩
        go_wp2
        go_ret
        exact ⟨by rw [Hl.out]; rfl, rfl⟩
      · rw [if_pos ⟨rfl, hl⟩]
        have e6 : ((a.size : Int) != (b.size : Int)) = true := by rw [hla, hlb, bne_iff_ne]; omega
        have Hl := Lib.hid (show decide (p.length < q.length) = decide (a.size < b.size) by rw [hla, hlb])
        clear ha hb hta htb hla hlb hwa hwb h h1 h2 h3 hx hy hd hl
        go_enter Tryz.func72, Tryz.ntmps72
        go_wp2_with fail
        refine (letters_is a _ Hx.out _ hsa).mono ?_
        rintro e w' ⟨rfl, rfl⟩
        go_wp2_with fail
        refine (letters_is b _ Hy.out _ hsb).mono ?_
        rintro e w' ⟨rfl, rfl⟩
        go_wp2_with fail
        refine (digits_is a _ Hd.out _ hsa).mono ?_
        rintro e w' ⟨rfl, rfl⟩
        go_wp2
        go_ret
        exact ⟨by rw [Hl.out]; rfl, rfl⟩
  · rw [if_pos (by simpa using h3)]
    have e5 : (x == y) = false := by simpa using h3
    clear ha hb hta htb hla hlb hwa hwb h h1 h2 h3 hx hy
    go_enter Tryz.func72, Tryz.ntmps72
    go_wp2_with fail
    refine (letters_is a _ Hx.out _ hsa).mono ?_
    rintro e w' ⟨rfl, rfl⟩
    go_wp2_with fail
    refine (letters_is b _ Hy.out _ hsb).mono ?_
    rintro e w' ⟨rfl, rfl⟩
    go_wp2_with fail
    refine (letters_is a _ Hx.out _ hsa).mono ?_
    rintro e w' ⟨rfl, rfl⟩
    go_wp2
    go_ret
    exact ⟨rfl, rfl⟩

theorem before_is (p q : Bs) (b : Bool) (h : before p q = b) (w : World) (hp : p.length ≤ 1000000) (hq : q.length ≤ 1000000) :
    Calls Tryz.prog 72 #[.string ⟨p.toArray⟩, .string ⟨q.toArray⟩] w fun e w' => e = .returned (.bool b) ∧ w = w' := by
  subst h; exact before_any p q w hp hq

/-- One step along two rows of parts, ends behind both. -/
theorem cps_at {x y : List Bs} (hy : ∀ p ∈ y, p ≠ []) (i : Nat) (hi : i < x.length ∨ i < y.length) :
    cmpParts (x.drop i) (y.drop i) = if cmpPart (nth x i) (nth y i) = 0 then cmpParts (x.drop (i + 1)) (y.drop (i + 1)) else cmpPart (nth x i) (nth y i) := by
  by_cases hx : i < x.length
  · rw [List.drop_eq_getElem_cons hx, nth_lt hx]
    have hh : hd (y.drop i) = nth y i := by
      by_cases h : i < y.length
      · rw [List.drop_eq_getElem_cons h, nth_lt h]; rfl
      · rw [List.drop_of_length_le (by omega), nth_ge (by omega)]; rfl
    by_cases h : cmpPart x[i] (nth y i) = 0
    · rw [if_pos h, cps_zero (by rw [hh]; exact h), List.tail_drop]
    · rw [if_neg h, cps_part (by rw [hh]; exact h), hh]
  · have hy' : i < y.length := by omega
    rw [List.drop_of_length_le (by omega : x.length ≤ i), List.drop_eq_getElem_cons hy', cps_end, nth_ge (by omega : x.length ≤ i), nth_lt hy']
    rw [if_neg (fun e => hy y[i] (List.getElem_mem _) (cp_eq.1 e).symm)]
theorem nth_pe {x : List Bs} (hx : ∀ p ∈ x, part p = true) (i : Nat) : pe (nth x i) := by
  by_cases h : i < x.length
  · rw [nth_lt h]; exact .inr (hx _ (List.getElem_mem _))
  · rw [nth_ge (by omega)]; exact .inl rfl

/-- Does a text stand ahead of another one? -/
def less (a b : Bs) : Bool := decide (compare a b = -1)

set_option maxHeartbeats 2000000 in
theorem less_any (a b : ByteArray) (w : World) :
    Calls Tryz.prog 51 #[.string a, .string b] w fun e w' => e = .returned (.bool (less a.data.toList b.data.toList)) ∧ Below w.heap.size w w' := by
  cases ha : may a.data.toList with
  | false =>
    cases hb : may b.data.toList with
    | false =>
      have Hv := Lib.hid (show less a.data.toList b.data.toList = false by unfold less; rw [cmp_none (by rw [ha]; rfl), mayI_false ha, mayI_false hb]; rfl)
      have Ha := Lib.hid ha
      have Hb := Lib.hid hb
      clear ha hb
      go_enter Tryz.func51, Tryz.ntmps51
      go_wp2_with fail
      refine (refMay_is a _ Ha.out _).mono ?_
      rintro e w1 ⟨rfl, h1⟩
      go_wp2_with fail
      refine (refMay_is a _ Ha.out _).mono ?_
      rintro e w2 ⟨rfl, h2⟩
      go_wp2_with fail
      refine (refMay_is b _ Hb.out _).mono ?_
      rintro e w3 ⟨rfl, h3⟩
      go_wp2
      go_ret
      exact ⟨by rw [Hv.out]; rfl, h1.trans ((h2.trans (h3.mono h2.size)).mono h1.size)⟩
    | true =>
      have Hv := Lib.hid (show less a.data.toList b.data.toList = true by unfold less; rw [cmp_none (by rw [ha]; rfl), mayI_false ha, mayI_true hb]; rfl)
      have Ha := Lib.hid ha
      have Hb := Lib.hid hb
      clear ha hb
      go_enter Tryz.func51, Tryz.ntmps51
      go_wp2_with fail
      refine (refMay_is a _ Ha.out _).mono ?_
      rintro e w1 ⟨rfl, h1⟩
      go_wp2_with fail
      refine (refMay_is a _ Ha.out _).mono ?_
      rintro e w2 ⟨rfl, h2⟩
      go_wp2_with fail
      refine (refMay_is b _ Hb.out _).mono ?_
      rintro e w3 ⟨rfl, h3⟩
      go_wp2
      go_ret
      exact ⟨by rw [Hv.out]; rfl, h1.trans ((h2.trans (h3.mono h2.size)).mono h1.size)⟩
  | true =>
    cases hb : may b.data.toList with
    | false =>
      have Hv := Lib.hid (show less a.data.toList b.data.toList = false by unfold less; rw [cmp_none (by rw [hb]; simp), mayI_true ha, mayI_false hb]; rfl)
      have Ha := Lib.hid ha
      have Hb := Lib.hid hb
      clear ha hb
      go_enter Tryz.func51, Tryz.ntmps51
      go_wp2_with fail
      refine (refMay_is a _ Ha.out _).mono ?_
      rintro e w1 ⟨rfl, h1⟩
      go_wp2_with fail
      refine (refMay_is b _ Hb.out _).mono ?_
      rintro e w2 ⟨rfl, h2⟩
      go_wp2_with fail
      refine (refMay_is a _ Ha.out _).mono ?_
      rintro e w3 ⟨rfl, h3⟩
      go_wp2
      go_ret
      exact ⟨by rw [Hv.out]; rfl, h1.trans ((h2.trans (h3.mono h2.size)).mono h1.size)⟩
    | true =>
      obtain ⟨x, hx⟩ : ∃ x, cut 46 a.data.toList = x := ⟨_, rfl⟩
      obtain ⟨y, hy⟩ : ∃ y, cut 46 b.data.toList = y := ⟨_, rfl⟩
      obtain ⟨a1, a2, a3⟩ := may_cut ha
      obtain ⟨b1, b2, b3⟩ := may_cut hb
      rw [size_toList] at a1 b1
      have hv : less a.data.toList b.data.toList = decide (cmpParts x y = -1) := by unfold less; rw [cmp_both ha hb, hx, hy]
      have hxl : ∀ i, (nth x i).length ≤ 1000000 := by
        intro i
        by_cases hi : i < x.length
        · rw [nth_lt hi]
          have := ref_part_le 46 a.data.toList x[i] (by rw [hx]; exact List.getElem_mem _)
          rw [size_toList] at this; omega
        · rw [nth_ge (by omega)]; simp
      have hyl : ∀ i, (nth y i).length ≤ 1000000 := by
        intro i
        by_cases hi : i < y.length
        · rw [nth_lt hi]
          have := ref_part_le 46 b.data.toList y[i] (by rw [hy]; exact List.getElem_mem _)
          rw [size_toList] at this; omega
        · rw [nth_ge (by omega)]; simp
      rw [hx] at a2 a3
      rw [hy] at b2 b3
      have hcx := fun w => refCut_any a 46 46 rfl w (by omega)
      have hcy := fun w => refCut_any b 46 46 rfl w (by omega)
      rw [hx] at hcx
      rw [hy] at hcy
      have Hcx := Lib.hid hcx
      have Hcy := Lib.hid hcy
      have Ha := Lib.hid ha
      have Hb := Lib.hid hb
      have Hv := Lib.hid hv
      have HA3 := Lib.hid a3
      have HB3 := Lib.hid b3
      have Hxl := Lib.hid hxl
      have Hyl := Lib.hid hyl
      clear ha hb hx hy hv hcx hcy a3 b3 hxl hyl a1 b1
      go_enter Tryz.func51, Tryz.ntmps51
      go_wp2_with fail
      refine (refMay_is a _ Ha.out _).mono ?_
      rintro e w1 ⟨rfl, h1⟩
      go_wp2_with fail
      refine (refMay_is b _ Hb.out _).mono ?_
      rintro e w2 ⟨rfl, h2⟩
      go_wp2_with fail
      refine (Hcx.out _).mono ?_
      rintro e w3 ⟨vx, rfl, ox, h3⟩
      have sx := strAt_own ox
      have Sx := Lib.hid sx
      clear ox sx
      go_wp2_with fail
      refine (Hcy.out _).mono ?_
      rintro e w4 ⟨vy, rfl, oy, h4⟩
      have sy := strAt_own oy
      have sx := Sx.out.below h4
      obtain ⟨ax, cx, rfl, fx⟩ := sx
      obtain ⟨ay, cy, rfl, fy⟩ := sy
      have SX : Hid (StrAt w4 (.slice ax x.length cx) x) := Lib.hid ⟨ax, cx, rfl, fx⟩
      have SY : Hid (StrAt w4 (.slice ay y.length cy) y) := Lib.hid ⟨ay, cy, rfl, fy⟩
      have hbb : Below w.heap.size w w4 := h1.trans ((h2.trans ((h3.trans (h4.mono h3.size)).mono h2.size)).mono h1.size)
      clear fx fy Sx oy h1 h2 h3 h4
      go_wp2_with fail
      go_loop [7] (fun i => ∃ k : Nat, k ≤ 8 ∧ i = .int .i64 k ∧ Hid (cmpParts x y = cmpParts (x.drop k) (y.drop k))) (fun i => 9 - (intOf i).toNat)
      case atStart => exact ⟨0, by omega, rfl, Lib.hid rfl⟩
      case round =>
        obtain ⟨k, hk, rfl, hcmp⟩ := hrel
        by_cases hlt : k < x.length ∨ k < y.length
        · have hstep := cps_at (x := x) (fun p hp => part_ne (HB3.out p hp)) k hlt
          obtain ⟨n, hn⟩ : ∃ n, cmpPart (nth x k) (nth y k) = n := ⟨_, rfl⟩
          have hb1 : before (nth x k) (nth y k) = decide (n = -1) := by rw [before_eq (nth_pe HA3.out k) (nth_pe HB3.out k), hn]
          have hb2 : before (nth y k) (nth x k) = decide (n = 1) := by
            rw [before_eq (nth_pe HB3.out k) (nth_pe HA3.out k), cp_anti (nth x k), hn, decide_eq_decide]; omega
          have hr := cp_range (nth x k) (nth y k)
          rw [hn] at hr hstep
          have HB1 := Lib.hid hb1
          have HB2 := Lib.hid hb2
          have hlt1 : ∀ (_ : ¬ (k : Int) < x.length), (k : Int) < y.length := by intro h; omega
          by_cases hkx : k < x.length
          · have g1 : (k : Int) < x.length := by omega
            clear hlt hlt1
            by_cases hm : n = -1
            · have Hv2 := Lib.hid (show less a.data.toList b.data.toList = true by rw [Hv.out, hcmp.out, hstep, if_neg (by omega), hm]; rfl)
              have HB1' := Lib.hid (show before (nth x k) (nth y k) = true by rw [HB1.out, hm]; rfl)
              clear hstep hn hb1 hb2 hr hm
              go_wp2_with fail
              refine (at_any _ x k _ SX.out (by omega) (by omega)).mono ?_
              rintro e w' ⟨rfl, rfl⟩
              go_wp2_with fail
              refine (at_any _ y k _ SY.out (by omega) (by omega)).mono ?_
              rintro e w' ⟨rfl, rfl⟩
              go_wp2_with fail
              refine (before_is _ _ _ HB1'.out _ (Hxl.out k) (Hyl.out k)).mono ?_
              rintro e w' ⟨rfl, rfl⟩
              go_wp2
              go_ret
              exact ⟨by rw [Hv2.out]; rfl, hbb⟩
            · by_cases hm1 : n = 1
              · have Hv2 := Lib.hid (show less a.data.toList b.data.toList = false by rw [Hv.out, hcmp.out, hstep, if_neg (by omega), hm1]; rfl)
                have HB1' := Lib.hid (show before (nth x k) (nth y k) = false by rw [HB1.out, hm1]; rfl)
                have HB2' := Lib.hid (show before (nth y k) (nth x k) = true by rw [HB2.out, hm1]; rfl)
                clear hstep hn hb1 hb2 hr hm hm1
                go_wp2_with fail
                refine (at_any _ x k _ SX.out (by omega) (by omega)).mono ?_
                rintro e w' ⟨rfl, rfl⟩
                go_wp2_with fail
                refine (at_any _ y k _ SY.out (by omega) (by omega)).mono ?_
                rintro e w' ⟨rfl, rfl⟩
                go_wp2_with fail
                refine (before_is _ _ _ HB1'.out _ (Hxl.out k) (Hyl.out k)).mono ?_
                rintro e w' ⟨rfl, rfl⟩
                go_wp2_with fail
                refine (at_any _ y k _ SY.out (by omega) (by omega)).mono ?_
                rintro e w' ⟨rfl, rfl⟩
                go_wp2_with fail
                refine (at_any _ x k _ SX.out (by omega) (by omega)).mono ?_
                rintro e w' ⟨rfl, rfl⟩
                go_wp2_with fail
                refine (before_is _ _ _ HB2'.out _ (Hyl.out k) (Hxl.out k)).mono ?_
                rintro e w' ⟨rfl, rfl⟩
                go_wp2
                go_ret
                exact ⟨by rw [Hv2.out]; rfl, hbb⟩
              · have hz : n = 0 := by omega
                have Hnew := Lib.hid (show cmpParts x y = cmpParts (x.drop (k + 1)) (y.drop (k + 1)) by rw [hcmp.out, hstep, if_pos hz])
                have HB1' := Lib.hid (show before (nth x k) (nth y k) = false by rw [HB1.out, hz]; rfl)
                have HB2' := Lib.hid (show before (nth y k) (nth x k) = false by rw [HB2.out, hz]; rfl)
                clear hstep hn hb1 hb2 hr hm hm1 hz
                go_wp2_with fail
                refine (at_any _ x k _ SX.out (by omega) (by omega)).mono ?_
                rintro e w' ⟨rfl, rfl⟩
                go_wp2_with fail
                refine (at_any _ y k _ SY.out (by omega) (by omega)).mono ?_
                rintro e w' ⟨rfl, rfl⟩
                go_wp2_with fail
                refine (before_is _ _ _ HB1'.out _ (Hxl.out k) (Hyl.out k)).mono ?_
                rintro e w' ⟨rfl, rfl⟩
                go_wp2_with fail
                refine (at_any _ y k _ SY.out (by omega) (by omega)).mono ?_
                rintro e w' ⟨rfl, rfl⟩
                go_wp2_with fail
                refine (at_any _ x k _ SX.out (by omega) (by omega)).mono ?_
                rintro e w' ⟨rfl, rfl⟩
                go_wp2_with fail
                refine (before_is _ _ _ HB2'.out _ (Hyl.out k) (Hxl.out k)).mono ?_
                rintro e w' ⟨rfl, rfl⟩
                go_wp2
                go_round
                case rel => exact ⟨k + 1, by omega, by go_num, Hnew⟩
                case measure => simp [intOf]; omega
          · have g0 : ¬ (k : Int) < x.length := by omega
            have g1 : (k : Int) < y.length := by omega
            clear hlt hlt1 hkx
            by_cases hm : n = -1
            · have Hv2 := Lib.hid (show less a.data.toList b.data.toList = true by rw [Hv.out, hcmp.out, hstep, if_neg (by omega), hm]; rfl)
              have HB1' := Lib.hid (show before (nth x k) (nth y k) = true by rw [HB1.out, hm]; rfl)
              clear hstep hn hb1 hb2 hr hm
              go_wp2_with fail
              refine (at_any _ x k _ SX.out (by omega) (by omega)).mono ?_
              rintro e w' ⟨rfl, rfl⟩
              go_wp2_with fail
              refine (at_any _ y k _ SY.out (by omega) (by omega)).mono ?_
              rintro e w' ⟨rfl, rfl⟩
              go_wp2_with fail
              refine (before_is _ _ _ HB1'.out _ (Hxl.out k) (Hyl.out k)).mono ?_
              rintro e w' ⟨rfl, rfl⟩
              go_wp2
              go_ret
              exact ⟨by rw [Hv2.out]; rfl, hbb⟩
            · by_cases hm1 : n = 1
              · have Hv2 := Lib.hid (show less a.data.toList b.data.toList = false by rw [Hv.out, hcmp.out, hstep, if_neg (by omega), hm1]; rfl)
                have HB1' := Lib.hid (show before (nth x k) (nth y k) = false by rw [HB1.out, hm1]; rfl)
                have HB2' := Lib.hid (show before (nth y k) (nth x k) = true by rw [HB2.out, hm1]; rfl)
                clear hstep hn hb1 hb2 hr hm hm1
                go_wp2_with fail
                refine (at_any _ x k _ SX.out (by omega) (by omega)).mono ?_
                rintro e w' ⟨rfl, rfl⟩
                go_wp2_with fail
                refine (at_any _ y k _ SY.out (by omega) (by omega)).mono ?_
                rintro e w' ⟨rfl, rfl⟩
                go_wp2_with fail
                refine (before_is _ _ _ HB1'.out _ (Hxl.out k) (Hyl.out k)).mono ?_
                rintro e w' ⟨rfl, rfl⟩
                go_wp2_with fail
                refine (at_any _ y k _ SY.out (by omega) (by omega)).mono ?_
                rintro e w' ⟨rfl, rfl⟩
                go_wp2_with fail
                refine (at_any _ x k _ SX.out (by omega) (by omega)).mono ?_
                rintro e w' ⟨rfl, rfl⟩
                go_wp2_with fail
                refine (before_is _ _ _ HB2'.out _ (Hyl.out k) (Hxl.out k)).mono ?_
                rintro e w' ⟨rfl, rfl⟩
                go_wp2
                go_ret
                exact ⟨by rw [Hv2.out]; rfl, hbb⟩
              · have hz : n = 0 := by omega
                have Hnew := Lib.hid (show cmpParts x y = cmpParts (x.drop (k + 1)) (y.drop (k + 1)) by rw [hcmp.out, hstep, if_pos hz])
                have HB1' := Lib.hid (show before (nth x k) (nth y k) = false by rw [HB1.out, hz]; rfl)
                have HB2' := Lib.hid (show before (nth y k) (nth x k) = false by rw [HB2.out, hz]; rfl)
                clear hstep hn hb1 hb2 hr hm hm1 hz
                go_wp2_with fail
                refine (at_any _ x k _ SX.out (by omega) (by omega)).mono ?_
                rintro e w' ⟨rfl, rfl⟩
                go_wp2_with fail
                refine (at_any _ y k _ SY.out (by omega) (by omega)).mono ?_
                rintro e w' ⟨rfl, rfl⟩
                go_wp2_with fail
                refine (before_is _ _ _ HB1'.out _ (Hxl.out k) (Hyl.out k)).mono ?_
                rintro e w' ⟨rfl, rfl⟩
                go_wp2_with fail
                refine (at_any _ y k _ SY.out (by omega) (by omega)).mono ?_
                rintro e w' ⟨rfl, rfl⟩
                go_wp2_with fail
                refine (at_any _ x k _ SX.out (by omega) (by omega)).mono ?_
                rintro e w' ⟨rfl, rfl⟩
                go_wp2_with fail
                refine (before_is _ _ _ HB2'.out _ (Hyl.out k) (Hxl.out k)).mono ?_
                rintro e w' ⟨rfl, rfl⟩
                go_wp2
                go_round
                case rel => exact ⟨k + 1, by omega, by go_num, Hnew⟩
                case measure => simp [intOf]; omega
        · have g0 : ¬ (k : Int) < x.length := by omega
          have g1 : ¬ (k : Int) < y.length := by omega
          have Hv2 := Lib.hid (show less a.data.toList b.data.toList = false by
            rw [Hv.out, hcmp.out, List.drop_of_length_le (by omega), List.drop_of_length_le (by omega)]; rfl)
          clear hlt
          go_wp2
          go_ret
          exact ⟨by rw [Hv2.out]; rfl, hbb⟩

end Go.Proofs.YtdijkekglaimfaaGreatDoor.Ver
