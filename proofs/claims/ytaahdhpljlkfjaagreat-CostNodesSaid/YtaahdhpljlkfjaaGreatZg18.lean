/- ref.May, ref.at, ref.before, ref.Less, ref.Compare, ref.Great, ref.Same. -/
import Derived.Test.YtaahdhpljlkfjaaGreatZg17
import Derived.Test.YtaahdhpljlkfjaaGreatZg13
namespace Go.Proofs.YtaahdhpljlkfjaaGreat.Ver
open Go.RowKit

/-- The text at a place; behind the last one an empty one. -/
def nth (xs : List Bs) (i : Nat) : Bs := xs[i]?.getD []
theorem nth_lt {xs : List Bs} {i : Nat} (h : i < xs.length) : nth xs i = xs[i] := by unfold nth; rw [List.getElem?_eq_getElem h]; rfl
theorem nth_ge {xs : List Bs} {i : Nat} (h : xs.length ≤ i) : nth xs i = [] := by unfold nth; rw [List.getElem?_eq_none h]; rfl

/-- A list of texts in memory, whoever laid it. -/
def StrAt (w : World) (v : Value) (xs : List Bs) : Prop :=
  ∃ ao cap, v = .slice ao xs.length cap ∧ (0 < xs.length → ∃ b off, ao = some ⟨b, off, none⟩ ∧ b < w.heap.size ∧ ∀ i, i < xs.length → w.cell? ⟨b, off + i, none⟩ = some (.string ⟨(nth xs i).toArray⟩))

theorem texts_get' (l : List Bs) (i : Nat) (h : i < l.length) : (texts l)[i]? = some (.string ⟨(nth l i).toArray⟩) := by
  rw [nth_lt h]; simp [texts, List.getElem?_eq_getElem h]

theorem ref_part_le (c : UInt8) : ∀ (l : Bs), ∀ p ∈ cut c l, p.length ≤ l.length
  | [], p, hp => by simp [cut] at hp; simp [hp]
  | d :: r, p, hp => by
    have ih := ref_part_le c r
    rw [cut] at hp
    split at hp
    · rcases List.mem_cons.1 hp with rfl | h
      · simp
      · have := ih p h; simp; omega
    · split at hp
      · simp at hp; subst hp; simp
      · rename_i q qs hq
        rcases List.mem_cons.1 hp with rfl | h
        · have := ih q (by rw [hq]; simp); simp; omega
        · have := ih p (by rw [hq]; simp [h]); simp; omega

theorem strAt_own {w : World} {base : Nat} {v : Value} {xs : List Bs} (h : w.ownsRow base 9 1 v xs.length (texts xs)) : StrAt w v xs := by
  rcases h.2 with ⟨rfl, h0⟩ | ⟨g, cap, cur, rfl, hb, hg, _⟩
  · exact ⟨none, 0, by rw [h0], fun hp => by omega⟩
  · refine ⟨_, cap, rfl, fun _ => ⟨g, 0, rfl, lt_of_block hg, fun i hi => ?_⟩⟩
    rw [Nat.zero_add, h.cellAt i (by omega), texts_get' xs i hi]
theorem StrAt.below {w w' : World} {v : Value} {xs : List Bs} (h : StrAt w v xs) (hb : Below w.heap.size w w') : StrAt w' v xs := by
  obtain ⟨ao, cap, rfl, h⟩ := h
  refine ⟨ao, cap, rfl, fun hp => ?_⟩
  obtain ⟨b, off, rfl, hlt, hc⟩ := h hp
  exact ⟨b, off, rfl, Nat.lt_of_lt_of_le hlt hb.size, fun i hi => (hb.cell hlt).trans (hc i hi)⟩

theorem refPart_is (p : Bs) (b : Bool) (h : part p = b) (hp : p.length ≤ 1000000) (w : World) :
    Calls Tryz.prog 104 #[.string ⟨p.toArray⟩] w fun e w' => e = .returned (.bool b) ∧ w = w' := by
  have := refPart_any ⟨p.toArray⟩ w (by unfold maxLen; show p.toArray.size ≤ _; simp; omega)
  simpa [h] using this

set_option maxHeartbeats 800000 in
theorem refMay_any (s : ByteArray) (w : World) :
    Calls Tryz.prog 82 #[.string s] w fun e w' => e = .returned (.bool (may s.data.toList)) ∧ Below w.heap.size w w' := by
  by_cases h0 : s.size = 0
  · have hl : s.data.toList = [] := List.eq_nil_of_length_eq_zero (by rw [size_toList]; exact h0)
    have Hv := Lib.hid (show may s.data.toList = false by rw [hl]; decide)
    have e1 : s.toList = [] := by rw [Lib.toList_data]; exact hl
    clear h0 hl
    go_enter Tryz.func82, Tryz.ntmps82
    go_wp2
    go_ret
    exact ⟨by rw [Hv.out]; rfl, Below.refl _ _⟩
  · have e1 : s.toList.isEmpty = false := by
      rw [Lib.toList_data]; cases h : s.data.toList with
      | nil => have := size_toList s; rw [h] at this; simp at this; omega
      | cons a b => rfl
    clear h0
    by_cases h40 : 40 < s.size
    · have Hv := Lib.hid (may_long (l := s.data.toList) (by rw [size_toList]; exact h40))
      have e2 : (40 : Int) < s.size := by omega
      clear h40
      go_enter Tryz.func82, Tryz.ntmps82
      go_wp2
      go_ret
      exact ⟨by rw [Hv.out]; rfl, Below.refl _ _⟩
    · have e2 : ¬ (40 : Int) < s.size := by omega
      have hs40 : s.size ≤ 40 := by omega
      obtain ⟨xs, hxs⟩ : ∃ xs, cut 46 s.data.toList = xs := ⟨_, rfl⟩
      have hmay : may s.data.toList = (decide (xs.length ≤ 8) && xs.all part) := by
        unfold may; rw [hxs, size_toList]
        have : decide (s.size ≤ 40) = true := by simpa using hs40
        rw [this]; rfl
      have hxl : ∀ i, (nth xs i).length ≤ 1000000 := by
        intro i
        by_cases hi : i < xs.length
        · rw [nth_lt hi]
          have := ref_part_le 46 s.data.toList xs[i] (by rw [hxs]; exact List.getElem_mem _)
          rw [size_toList] at this; omega
        · rw [nth_ge (by omega)]; simp
      have hxn : xs.length ≤ 41 := by rw [← hxs]; have := cut_le 46 s.data.toList; rw [size_toList] at this; omega
      have hcut := refCut_any s 46 46 rfl w (by omega)
      rw [hxs] at hcut
      have Hcut := Lib.hid hcut
      have Hmay := Lib.hid hmay
      clear h40 hxs hcut hmay
      go_enter Tryz.func82, Tryz.ntmps82
      go_wp2_with fail
      refine Hcut.out.mono ?_
      rintro e w1 ⟨v, rfl, hown, hb1⟩
      obtain ⟨ao, cap, rfl, hcell⟩ := strAt_own hown
      clear hown
      have Hcell := Lib.hid hcell
      clear hcell
      go_wp2_with fail
      go_loop [16] (fun i => ∃ k : Nat, k ≤ xs.length ∧ i = .int .i64 k ∧ Hid ((xs.take k).all part = true)) (fun i => xs.length - (intOf i).toNat)
      case atStart => exact ⟨0, Nat.zero_le _, rfl, Lib.hid (by simp)⟩
      case round =>
        obtain ⟨k, hk, rfl, hall⟩ := hrel
        by_cases hlt : k < xs.length
        · obtain ⟨b, off, rfl, _, hc⟩ := Hcell.out (by omega)
          have hck := hc k hlt
          clear hc
          cases hp : part (nth xs k) with
          | true =>
            have Hp := Lib.hid hp
            have hn : Hid ((xs.take (k + 1)).all part = true) := Lib.hid (by
              rw [List.take_succ_eq_append_getElem hlt, List.all_append, hall.out]
              rw [nth_lt hlt] at hp
              simp [hp])
            clear hp
            go_wp2_with fail
            refine (refPart_is _ true Hp.out (hxl k) _).mono ?_
            rintro e w' ⟨rfl, rfl⟩
            go_wp2
            go_round
            case rel => exact ⟨k + 1, by omega, by go_num, hn⟩
            case measure => simp [intOf]; omega
          | false =>
            have Hp := Lib.hid hp
            have Hv := Lib.hid (show may s.data.toList = false by
              rw [Hmay.out]
              have : xs.all part = false := List.all_eq_false.2 ⟨xs[k], List.getElem_mem _, by rw [nth_lt hlt] at hp; simp [hp]⟩
              rw [this]; simp)
            clear hp
            go_wp2_with fail
            refine (refPart_is _ false Hp.out (hxl k) _).mono ?_
            rintro e w' ⟨rfl, rfl⟩
            go_wp2
            go_ret
            exact ⟨by rw [Hv.out]; rfl, hb1⟩
        · have hv : may s.data.toList = decide (xs.length ≤ 8) := by
            have := hall.out
            rw [List.take_of_length_le (by omega)] at this
            rw [Hmay.out, this, Bool.and_true]
          have Hv := Lib.hid hv
          have hd : decide ((xs.length : Int) ≤ 8) = decide (xs.length ≤ 8) := by rw [decide_eq_decide]; omega
          have Hd := Lib.hid hd
          clear hv hd
          go_wp2
          go_ret
          exact ⟨by rw [Hv.out, ← Hd.out]; rfl, hb1⟩

theorem refMay_is (s : ByteArray) (b : Bool) (h : may s.data.toList = b) (w : World) :
    Calls Tryz.prog 82 #[.string s] w fun e w' => e = .returned (.bool b) ∧ Below w.heap.size w w' := by
  subst h; exact refMay_any s w

set_option maxHeartbeats 400000 in
theorem at_any (v : Value) (xs : List Bs) (i : Nat) (w : World) (h : StrAt w v xs) (hi : i ≤ 1000000) (hx : xs.length ≤ 1000000) :
    Calls Tryz.prog 85 #[v, .int .i64 i] w fun e w' => e = .returned (.string ⟨(nth xs i).toArray⟩) ∧ w = w' := by
  obtain ⟨ao, cap, rfl, hcell⟩ := h
  by_cases hlt : i < xs.length
  · obtain ⟨b, off, rfl, _, hc⟩ := hcell (by omega)
    have hck := hc i hlt
    have hlt' : (i : Int) < xs.length := by omega
    clear hc hcell
    go_enter Tryz.func85, Tryz.ntmps85
    go_wp2
    go_ret
    exact ⟨rfl, rfl⟩
  · have Hn := Lib.hid (nth_ge (xs := xs) (i := i) (by omega))
    have hlt' : ¬ (i : Int) < xs.length := by omega
    clear hcell
    go_enter Tryz.func85, Tryz.ntmps85
    go_wp2
    go_ret
    exact ⟨by rw [Hn.out]; rfl, rfl⟩

end Go.Proofs.YtaahdhpljlkfjaaGreat.Ver

/- ref.before, ref.Less, ref.Compare, ref.Great, ref.Same. -/
namespace Go.Proofs.YtaahdhpljlkfjaaGreat.Ver
open Go.RowKit

theorem size_mk (p : Bs) : (⟨p.toArray⟩ : ByteArray).size = p.length := by show p.toArray.size = _; simp
theorem toList_mk (p : Bs) : (⟨p.toArray⟩ : ByteArray).toList = p := by rw [Lib.toList_data]
theorem letters_at (p : Bs) (b : Bool) (h : word p = b) (hp : p.length ≤ 1000000) (w : World) :
    Calls Tryz.prog 106 #[.string ⟨p.toArray⟩] w fun e w' => e = .returned (.bool b) ∧ w = w' :=
  letters_is ⟨p.toArray⟩ b h w (by rw [size_mk]; unfold maxLen; omega)
theorem digits_at (p : Bs) (b : Bool) (h : digits p = b) (hp : p.length ≤ 1000000) (w : World) :
    Calls Tryz.prog 105 #[.string ⟨p.toArray⟩] w fun e w' => e = .returned (.bool b) ∧ w = w' :=
  digits_is ⟨p.toArray⟩ b h w (by rw [size_mk]; unfold maxLen; omega)

set_option maxHeartbeats 1000000 in
theorem before_any (p q : Bs) (w : World) (hp : p.length ≤ 1000000) (hq : q.length ≤ 1000000) :
    Calls Tryz.prog 84 #[.string ⟨p.toArray⟩, .string ⟨q.toArray⟩] w fun e w' => e = .returned (.bool (before p q)) ∧ w = w' := by
  obtain ⟨a, ha⟩ : ∃ a : ByteArray, a = ⟨p.toArray⟩ := ⟨_, rfl⟩
  obtain ⟨b, hb⟩ : ∃ b : ByteArray, b = ⟨q.toArray⟩ := ⟨_, rfl⟩
  have hta : a.toList = p := by rw [ha, toList_mk]
  have htb : b.toList = q := by rw [hb, toList_mk]
  have hla : a.size = p.length := by rw [ha, size_mk]
  have hlb : b.size = q.length := by rw [hb, size_mk]
  have hwa : a.data.toList = p := by rw [← Lib.toList_data]; exact hta
  have hwb : b.data.toList = q := by rw [← Lib.toList_data]; exact htb
  have hsa : a.size ≤ maxLen := by unfold maxLen; omega
  have hsb : b.size ≤ maxLen := by unfold maxLen; omega
  rw [← ha, ← hb]
  unfold before
  by_cases h : p = q
  · rw [if_pos h]
    have e1 : (a.toList == b.toList) = true := by rw [hta, htb, h]; simp
    clear ha hb hta htb hla hlb hwa hwb h
    go_enter Tryz.func84, Tryz.ntmps84
    go_wp2
    go_ret
    exact ⟨rfl, rfl⟩
  rw [if_neg h]
  have e1 : (a.toList == b.toList) = false := by rw [hta, htb]; simpa using h
  have e1' : ¬ a.toList = b.toList := by rw [hta, htb]; exact h
  by_cases h1 : p = []
  · rw [if_pos h1]
    have e2 : a.toList = [] := by rw [hta, h1]
    have e3 : a.toList.isEmpty = true := by rw [hta, h1]; rfl
    have e4 : b.toList.isEmpty = false := by rw [htb]; cases q with | nil => exact absurd h1 h | cons _ _ => rfl
    have Hd := Lib.hid (show digits b.data.toList = digits q by rw [hwb])
    clear ha hb hta htb hla hlb hwa hwb h h1
    go_enter Tryz.func84, Tryz.ntmps84
    go_wp2_with fail
    refine (digits_is b _ Hd.out _ hsb).mono ?_
    rintro e w' ⟨rfl, rfl⟩
    go_wp2
    go_ret
    exact ⟨rfl, rfl⟩
  rw [if_neg h1]
  have e2 : a.toList.isEmpty = false := by rw [hta]; cases p with | nil => exact absurd rfl h1 | cons _ _ => rfl
  by_cases h2 : q = []
  · rw [if_pos h2]
    have e3 : b.toList = [] := by rw [htb, h2]
    have e4 : b.toList.isEmpty = true := by rw [htb, h2]; rfl
    have Hd := Lib.hid (show word a.data.toList = word p by rw [hwa])
    clear ha hb hta htb hla hlb hwa hwb h h1 h2
    go_enter Tryz.func84, Tryz.ntmps84
    go_wp2_with fail
    refine (letters_is a _ Hd.out _ hsa).mono ?_
    rintro e w' ⟨rfl, rfl⟩
    go_wp2
    go_ret
    exact ⟨rfl, rfl⟩
  rw [if_neg h2]
  have e3 : b.toList.isEmpty = false := by rw [htb]; cases q with | nil => exact absurd rfl h2 | cons _ _ => rfl
  obtain ⟨x, hx⟩ : ∃ x, word p = x := ⟨_, rfl⟩
  obtain ⟨y, hy⟩ : ∃ y, word q = y := ⟨_, rfl⟩
  have Hx := Lib.hid (show word a.data.toList = x by rw [hwa, hx])
  have Hy := Lib.hid (show word b.data.toList = y by rw [hwb, hy])
  rw [hx, hy]
  by_cases h3 : x = y
  · rw [if_neg (by simpa using h3)]
    have e5 : (x == y) = true := by rw [h3]; simp
    obtain ⟨d, hd⟩ : ∃ d, digits p = d := ⟨_, rfl⟩
    have Hd := Lib.hid (show digits a.data.toList = d by rw [hwa, hd])
    rw [hd]
    cases d with
    | false =>
      rw [if_neg (by simp)]
      have Hl := Lib.hid (show Op.bytesLess p q = Op.bytesLess a.toList b.toList by rw [hta, htb])
      clear ha hb hta htb hla hlb hwa hwb h h1 h2 h3 hx hy hd
      go_enter Tryz.func84, Tryz.ntmps84
      go_wp2_with fail
      refine (letters_is a _ Hx.out _ hsa).mono ?_
      rintro e w' ⟨rfl, rfl⟩
      go_wp2_with fail
      refine (letters_is b _ Hy.out _ hsb).mono ?_
      rintro e w' ⟨rfl, rfl⟩
      go_wp2_with fail
      refine (digits_is a _ Hd.out _ hsa).mono ?_
      rintro e w' ⟨rfl, rfl⟩
      go_wp2
      go_ret
      exact ⟨by rw [Hl.out]; rfl, rfl⟩
    | true =>
      by_cases hl : p.length = q.length
      · rw [if_neg (fun c => c.2 hl)]
        have e6 : ((a.size : Int) != (b.size : Int)) = false := by rw [hla, hlb, hl]; simp
        have Hl := Lib.hid (show Op.bytesLess p q = Op.bytesLess a.toList b.toList by rw [hta, htb])
        clear ha hb hta htb hla hlb hwa hwb h h1 h2 h3 hx hy hd hl
        go_enter Tryz.func84, Tryz.ntmps84
        go_wp2_with fail
        refine (letters_is a _ Hx.out _ hsa).mono ?_
        rintro e w' ⟨rfl, rfl⟩
        go_wp2_with fail
        refine (letters_is b _ Hy.out _ hsb).mono ?_
        rintro e w' ⟨rfl, rfl⟩
        go_wp2_with fail
        refine (digits_is a _ Hd.out _ hsa).mono ?_
        rintro e w' ⟨rfl, rfl⟩
        go_wp2
        go_ret
        exact ⟨by rw [Hl.out]; rfl, rfl⟩
      · rw [if_pos ⟨rfl, hl⟩]
        have e6 : ((a.size : Int) != (b.size : Int)) = true := by rw [hla, hlb, bne_iff_ne]; omega
        have Hl := Lib.hid (show decide (p.length < q.length) = decide (a.size < b.size) by rw [hla, hlb])
        clear ha hb hta htb hla hlb hwa hwb h h1 h2 h3 hx hy hd hl
        go_enter Tryz.func84, Tryz.ntmps84
        go_wp2_with fail
        refine (letters_is a _ Hx.out _ hsa).mono ?_
        rintro e w' ⟨rfl, rfl⟩
        go_wp2_with fail
        refine (letters_is b _ Hy.out _ hsb).mono ?_
        rintro e w' ⟨rfl, rfl⟩
        go_wp2_with fail
        refine (digits_is a _ Hd.out _ hsa).mono ?_
        rintro e w' ⟨rfl, rfl⟩
        go_wp2
        go_ret
        exact ⟨by rw [Hl.out]; rfl, rfl⟩
  · rw [if_pos (by simpa using h3)]
    have e5 : (x == y) = false := by simpa using h3
    clear ha hb hta htb hla hlb hwa hwb h h1 h2 h3 hx hy
    go_enter Tryz.func84, Tryz.ntmps84
    go_wp2_with fail
    refine (letters_is a _ Hx.out _ hsa).mono ?_
    rintro e w' ⟨rfl, rfl⟩
    go_wp2_with fail
    refine (letters_is b _ Hy.out _ hsb).mono ?_
    rintro e w' ⟨rfl, rfl⟩
    go_wp2_with fail
    refine (letters_is a _ Hx.out _ hsa).mono ?_
    rintro e w' ⟨rfl, rfl⟩
    go_wp2
    go_ret
    exact ⟨rfl, rfl⟩

theorem before_is (p q : Bs) (b : Bool) (h : before p q = b) (w : World) (hp : p.length ≤ 1000000) (hq : q.length ≤ 1000000) :
    Calls Tryz.prog 84 #[.string ⟨p.toArray⟩, .string ⟨q.toArray⟩] w fun e w' => e = .returned (.bool b) ∧ w = w' := by
  subst h; exact before_any p q w hp hq

/-- One step along two rows of parts, ends behind both. -/
theorem cps_at {x y : List Bs} (hy : ∀ p ∈ y, p ≠ []) (i : Nat) (hi : i < x.length ∨ i < y.length) :
    cmpParts (x.drop i) (y.drop i) = if cmpPart (nth x i) (nth y i) = 0 then cmpParts (x.drop (i + 1)) (y.drop (i + 1)) else cmpPart (nth x i) (nth y i) := by
  by_cases hx : i < x.length
  · rw [List.drop_eq_getElem_cons hx, nth_lt hx]
    have hh : hd (y.drop i) = nth y i := by
      by_cases h : i < y.length
      · rw [List.drop_eq_getElem_cons h, nth_lt h]; rfl
      · rw [List.drop_of_length_le (by omega), nth_ge (by omega)]; rfl
    by_cases h : cmpPart x[i] (nth y i) = 0
    · rw [if_pos h, cps_zero (by rw [hh]; exact h), List.tail_drop]
    · rw [if_neg h, cps_part (by rw [hh]; exact h), hh]
  · have hy' : i < y.length := by omega
    rw [List.drop_of_length_le (by omega : x.length ≤ i), List.drop_eq_getElem_cons hy', cps_end, nth_ge (by omega : x.length ≤ i), nth_lt hy']
    rw [if_neg (fun e => hy y[i] (List.getElem_mem _) (cp_eq.1 e).symm)]
theorem nth_pe {x : List Bs} (hx : ∀ p ∈ x, part p = true) (i : Nat) : pe (nth x i) := by
  by_cases h : i < x.length
  · rw [nth_lt h]; exact .inr (hx _ (List.getElem_mem _))
  · rw [nth_ge (by omega)]; exact .inl rfl

/-- Does a text stand ahead of another one? -/
def less (a b : Bs) : Bool := decide (compare a b = -1)

set_option maxHeartbeats 2000000 in
theorem less_any (a b : ByteArray) (w : World) :
    Calls Tryz.prog 54 #[.string a, .string b] w fun e w' => e = .returned (.bool (less a.data.toList b.data.toList)) ∧ Below w.heap.size w w' := by
  cases ha : may a.data.toList with
  | false =>
    cases hb : may b.data.toList with
    | false =>
      have Hv := Lib.hid (show less a.data.toList b.data.toList = false by unfold less; rw [cmp_none (by rw [ha]; rfl), mayI_false ha, mayI_false hb]; rfl)
      have Ha := Lib.hid ha
      have Hb := Lib.hid hb
      clear ha hb
      go_enter Tryz.func54, Tryz.ntmps54
      go_wp2_with fail
      refine (refMay_is a _ Ha.out _).mono ?_
      rintro e w1 ⟨rfl, h1⟩
      go_wp2_with fail
      refine (refMay_is a _ Ha.out _).mono ?_
      rintro e w2 ⟨rfl, h2⟩
      go_wp2_with fail
      refine (refMay_is b _ Hb.out _).mono ?_
      rintro e w3 ⟨rfl, h3⟩
      go_wp2
      go_ret
      exact ⟨by rw [Hv.out]; rfl, h1.trans ((h2.trans (h3.mono h2.size)).mono h1.size)⟩
    | true =>
      have Hv := Lib.hid (show less a.data.toList b.data.toList = true by unfold less; rw [cmp_none (by rw [ha]; rfl), mayI_false ha, mayI_true hb]; rfl)
      have Ha := Lib.hid ha
      have Hb := Lib.hid hb
      clear ha hb
      go_enter Tryz.func54, Tryz.ntmps54
      go_wp2_with fail
      refine (refMay_is a _ Ha.out _).mono ?_
      rintro e w1 ⟨rfl, h1⟩
      go_wp2_with fail
      refine (refMay_is a _ Ha.out _).mono ?_
      rintro e w2 ⟨rfl, h2⟩
      go_wp2_with fail
      refine (refMay_is b _ Hb.out _).mono ?_
      rintro e w3 ⟨rfl, h3⟩
      go_wp2
      go_ret
      exact ⟨by rw [Hv.out]; rfl, h1.trans ((h2.trans (h3.mono h2.size)).mono h1.size)⟩
  | true =>
    cases hb : may b.data.toList with
    | false =>
      have Hv := Lib.hid (show less a.data.toList b.data.toList = false by unfold less; rw [cmp_none (by rw [hb]; simp), mayI_true ha, mayI_false hb]; rfl)
      have Ha := Lib.hid ha
      have Hb := Lib.hid hb
      clear ha hb
      go_enter Tryz.func54, Tryz.ntmps54
      go_wp2_with fail
      refine (refMay_is a _ Ha.out _).mono ?_
      rintro e w1 ⟨rfl, h1⟩
      go_wp2_with fail
      refine (refMay_is b _ Hb.out _).mono ?_
      rintro e w2 ⟨rfl, h2⟩
      go_wp2_with fail
      refine (refMay_is a _ Ha.out _).mono ?_
      rintro e w3 ⟨rfl, h3⟩
      go_wp2
      go_ret
      exact ⟨by rw [Hv.out]; rfl, h1.trans ((h2.trans (h3.mono h2.size)).mono h1.size)⟩
    | true =>
      obtain ⟨x, hx⟩ : ∃ x, cut 46 a.data.toList = x := ⟨_, rfl⟩
      obtain ⟨y, hy⟩ : ∃ y, cut 46 b.data.toList = y := ⟨_, rfl⟩
      obtain ⟨a1, a2, a3⟩ := may_cut ha
      obtain ⟨b1, b2, b3⟩ := may_cut hb
      rw [size_toList] at a1 b1
      have hv : less a.data.toList b.data.toList = decide (cmpParts x y = -1) := by unfold less; rw [cmp_both ha hb, hx, hy]
      have hxl : ∀ i, (nth x i).length ≤ 1000000 := by
        intro i
        by_cases hi : i < x.length
        · rw [nth_lt hi]
          have := ref_part_le 46 a.data.toList x[i] (by rw [hx]; exact List.getElem_mem _)
          rw [size_toList] at this; omega
        · rw [nth_ge (by omega)]; simp
      have hyl : ∀ i, (nth y i).length ≤ 1000000 := by
        intro i
        by_cases hi : i < y.length
        · rw [nth_lt hi]
          have := ref_part_le 46 b.data.toList y[i] (by rw [hy]; exact List.getElem_mem _)
          rw [size_toList] at this; omega
        · rw [nth_ge (by omega)]; simp
      rw [hx] at a2 a3
      rw [hy] at b2 b3
      have hcx := fun w => refCut_any a 46 46 rfl w (by omega)
      have hcy := fun w => refCut_any b 46 46 rfl w (by omega)
      rw [hx] at hcx
      rw [hy] at hcy
      have Hcx := Lib.hid hcx
      have Hcy := Lib.hid hcy
      have Ha := Lib.hid ha
      have Hb := Lib.hid hb
      have Hv := Lib.hid hv
      have HA3 := Lib.hid a3
      have HB3 := Lib.hid b3
      have Hxl := Lib.hid hxl
      have Hyl := Lib.hid hyl
      clear ha hb hx hy hv hcx hcy a3 b3 hxl hyl a1 b1
      go_enter Tryz.func54, Tryz.ntmps54
      go_wp2_with fail
      refine (refMay_is a _ Ha.out _).mono ?_
      rintro e w1 ⟨rfl, h1⟩
      go_wp2_with fail
      refine (refMay_is b _ Hb.out _).mono ?_
      rintro e w2 ⟨rfl, h2⟩
      go_wp2_with fail
      refine (Hcx.out _).mono ?_
      rintro e w3 ⟨vx, rfl, ox, h3⟩
      have sx := strAt_own ox
      have Sx := Lib.hid sx
      clear ox sx
      go_wp2_with fail
      refine (Hcy.out _).mono ?_
      rintro e w4 ⟨vy, rfl, oy, h4⟩
      have sy := strAt_own oy
      have sx := Sx.out.below h4
      obtain ⟨ax, cx, rfl, fx⟩ := sx
      obtain ⟨ay, cy, rfl, fy⟩ := sy
      have SX : Hid (StrAt w4 (.slice ax x.length cx) x) := Lib.hid ⟨ax, cx, rfl, fx⟩
      have SY : Hid (StrAt w4 (.slice ay y.length cy) y) := Lib.hid ⟨ay, cy, rfl, fy⟩
      have hbb : Below w.heap.size w w4 := h1.trans ((h2.trans ((h3.trans (h4.mono h3.size)).mono h2.size)).mono h1.size)
      clear fx fy Sx oy h1 h2 h3 h4
      go_wp2_with fail
      go_loop [7] (fun i => ∃ k : Nat, k ≤ 8 ∧ i = .int .i64 k ∧ Hid (cmpParts x y = cmpParts (x.drop k) (y.drop k))) (fun i => 9 - (intOf i).toNat)
      case atStart => exact ⟨0, by omega, rfl, Lib.hid rfl⟩
      case round =>
        obtain ⟨k, hk, rfl, hcmp⟩ := hrel
        by_cases hlt : k < x.length ∨ k < y.length
        · have hstep := cps_at (x := x) (fun p hp => part_ne (HB3.out p hp)) k hlt
          obtain ⟨n, hn⟩ : ∃ n, cmpPart (nth x k) (nth y k) = n := ⟨_, rfl⟩
          have hb1 : before (nth x k) (nth y k) = decide (n = -1) := by rw [before_eq (nth_pe HA3.out k) (nth_pe HB3.out k), hn]
          have hb2 : before (nth y k) (nth x k) = decide (n = 1) := by
            rw [before_eq (nth_pe HB3.out k) (nth_pe HA3.out k), cp_anti (nth x k), hn, decide_eq_decide]; omega
          have hr := cp_range (nth x k) (nth y k)
          rw [hn] at hr hstep
          have HB1 := Lib.hid hb1
          have HB2 := Lib.hid hb2
          have hlt1 : ∀ (_ : ¬ (k : Int) < x.length), (k : Int) < y.length := by intro h; omega
          by_cases hkx : k < x.length
          · have g1 : (k : Int) < x.length := by omega
            clear hlt hlt1
            by_cases hm : n = -1
            · have Hv2 := Lib.hid (show less a.data.toList b.data.toList = true by rw [Hv.out, hcmp.out, hstep, if_neg (by omega), hm]; rfl)
              have HB1' := Lib.hid (show before (nth x k) (nth y k) = true by rw [HB1.out, hm]; rfl)
              clear hstep hn hb1 hb2 hr hm
              go_wp2_with fail
              refine (at_any _ x k _ SX.out (by omega) (by omega)).mono ?_
              rintro e w' ⟨rfl, rfl⟩
              go_wp2_with fail
              refine (at_any _ y k _ SY.out (by omega) (by omega)).mono ?_
              rintro e w' ⟨rfl, rfl⟩
              go_wp2_with fail
              refine (before_is _ _ _ HB1'.out _ (Hxl.out k) (Hyl.out k)).mono ?_
              rintro e w' ⟨rfl, rfl⟩
              go_wp2
              go_ret
              exact ⟨by rw [Hv2.out]; rfl, hbb⟩
            · by_cases hm1 : n = 1
              · have Hv2 := Lib.hid (show less a.data.toList b.data.toList = false by rw [Hv.out, hcmp.out, hstep, if_neg (by omega), hm1]; rfl)
                have HB1' := Lib.hid (show before (nth x k) (nth y k) = false by rw [HB1.out, hm1]; rfl)
                have HB2' := Lib.hid (show before (nth y k) (nth x k) = true by rw [HB2.out, hm1]; rfl)
                clear hstep hn hb1 hb2 hr hm hm1
                go_wp2_with fail
                refine (at_any _ x k _ SX.out (by omega) (by omega)).mono ?_
                rintro e w' ⟨rfl, rfl⟩
                go_wp2_with fail
                refine (at_any _ y k _ SY.out (by omega) (by omega)).mono ?_
                rintro e w' ⟨rfl, rfl⟩
                go_wp2_with fail
                refine (before_is _ _ _ HB1'.out _ (Hxl.out k) (Hyl.out k)).mono ?_
                rintro e w' ⟨rfl, rfl⟩
                go_wp2_with fail
                refine (at_any _ y k _ SY.out (by omega) (by omega)).mono ?_
                rintro e w' ⟨rfl, rfl⟩
                go_wp2_with fail
                refine (at_any _ x k _ SX.out (by omega) (by omega)).mono ?_
                rintro e w' ⟨rfl, rfl⟩
                go_wp2_with fail
                refine (before_is _ _ _ HB2'.out _ (Hyl.out k) (Hxl.out k)).mono ?_
                rintro e w' ⟨rfl, rfl⟩
                go_wp2
                go_ret
                exact ⟨by rw [Hv2.out]; rfl, hbb⟩
              · have hz : n = 0 := by omega
                have Hnew := Lib.hid (show cmpParts x y = cmpParts (x.drop (k + 1)) (y.drop (k + 1)) by rw [hcmp.out, hstep, if_pos hz])
                have HB1' := Lib.hid (show before (nth x k) (nth y k) = false by rw [HB1.out, hz]; rfl)
                have HB2' := Lib.hid (show before (nth y k) (nth x k) = false by rw [HB2.out, hz]; rfl)
                clear hstep hn hb1 hb2 hr hm hm1 hz
                go_wp2_with fail
                refine (at_any _ x k _ SX.out (by omega) (by omega)).mono ?_
                rintro e w' ⟨rfl, rfl⟩
                go_wp2_with fail
                refine (at_any _ y k _ SY.out (by omega) (by omega)).mono ?_
                rintro e w' ⟨rfl, rfl⟩
                go_wp2_with fail
                refine (before_is _ _ _ HB1'.out _ (Hxl.out k) (Hyl.out k)).mono ?_
                rintro e w' ⟨rfl, rfl⟩
                go_wp2_with fail
                refine (at_any _ y k _ SY.out (by omega) (by omega)).mono ?_
                rintro e w' ⟨rfl, rfl⟩
                go_wp2_with fail
                refine (at_any _ x k _ SX.out (by omega) (by omega)).mono ?_
                rintro e w' ⟨rfl, rfl⟩
                go_wp2_with fail
                refine (before_is _ _ _ HB2'.out _ (Hyl.out k) (Hxl.out k)).mono ?_
                rintro e w' ⟨rfl, rfl⟩
                go_wp2
                go_round
                case rel => exact ⟨k + 1, by omega, by go_num, Hnew⟩
                case measure => simp [intOf]; omega
          · have g0 : ¬ (k : Int) < x.length := by omega
            have g1 : (k : Int) < y.length := by omega
            clear hlt hlt1 hkx
            by_cases hm : n = -1
            · have Hv2 := Lib.hid (show less a.data.toList b.data.toList = true by rw [Hv.out, hcmp.out, hstep, if_neg (by omega), hm]; rfl)
              have HB1' := Lib.hid (show before (nth x k) (nth y k) = true by rw [HB1.out, hm]; rfl)
              clear hstep hn hb1 hb2 hr hm
              go_wp2_with fail
              refine (at_any _ x k _ SX.out (by omega) (by omega)).mono ?_
              rintro e w' ⟨rfl, rfl⟩
              go_wp2_with fail
              refine (at_any _ y k _ SY.out (by omega) (by omega)).mono ?_
              rintro e w' ⟨rfl, rfl⟩
              go_wp2_with fail
              refine (before_is _ _ _ HB1'.out _ (Hxl.out k) (Hyl.out k)).mono ?_
              rintro e w' ⟨rfl, rfl⟩
              go_wp2
              go_ret
              exact ⟨by rw [Hv2.out]; rfl, hbb⟩
            · by_cases hm1 : n = 1
              · have Hv2 := Lib.hid (show less a.data.toList b.data.toList = false by rw [Hv.out, hcmp.out, hstep, if_neg (by omega), hm1]; rfl)
                have HB1' := Lib.hid (show before (nth x k) (nth y k) = false by rw [HB1.out, hm1]; rfl)
                have HB2' := Lib.hid (show before (nth y k) (nth x k) = true by rw [HB2.out, hm1]; rfl)
                clear hstep hn hb1 hb2 hr hm hm1
                go_wp2_with fail
                refine (at_any _ x k _ SX.out (by omega) (by omega)).mono ?_
                rintro e w' ⟨rfl, rfl⟩
                go_wp2_with fail
                refine (at_any _ y k _ SY.out (by omega) (by omega)).mono ?_
                rintro e w' ⟨rfl, rfl⟩
                go_wp2_with fail
                refine (before_is _ _ _ HB1'.out _ (Hxl.out k) (Hyl.out k)).mono ?_
                rintro e w' ⟨rfl, rfl⟩
                go_wp2_with fail
                refine (at_any _ y k _ SY.out (by omega) (by omega)).mono ?_
                rintro e w' ⟨rfl, rfl⟩
                go_wp2_with fail
                refine (at_any _ x k _ SX.out (by omega) (by omega)).mono ?_
                rintro e w' ⟨rfl, rfl⟩
                go_wp2_with fail
                refine (before_is _ _ _ HB2'.out _ (Hyl.out k) (Hxl.out k)).mono ?_
                rintro e w' ⟨rfl, rfl⟩
                go_wp2
                go_ret
                exact ⟨by rw [Hv2.out]; rfl, hbb⟩
              · have hz : n = 0 := by omega
                have Hnew := Lib.hid (show cmpParts x y = cmpParts (x.drop (k + 1)) (y.drop (k + 1)) by rw [hcmp.out, hstep, if_pos hz])
                have HB1' := Lib.hid (show before (nth x k) (nth y k) = false by rw [HB1.out, hz]; rfl)
                have HB2' := Lib.hid (show before (nth y k) (nth x k) = false by rw [HB2.out, hz]; rfl)
                clear hstep hn hb1 hb2 hr hm hm1 hz
                go_wp2_with fail
                refine (at_any _ x k _ SX.out (by omega) (by omega)).mono ?_
                rintro e w' ⟨rfl, rfl⟩
                go_wp2_with fail
                refine (at_any _ y k _ SY.out (by omega) (by omega)).mono ?_
                rintro e w' ⟨rfl, rfl⟩
                go_wp2_with fail
                refine (before_is _ _ _ HB1'.out _ (Hxl.out k) (Hyl.out k)).mono ?_
                rintro e w' ⟨rfl, rfl⟩
                go_wp2_with fail
                refine (at_any _ y k _ SY.out (by omega) (by omega)).mono ?_
                rintro e w' ⟨rfl, rfl⟩
                go_wp2_with fail
                refine (at_any _ x k _ SX.out (by omega) (by omega)).mono ?_
                rintro e w' ⟨rfl, rfl⟩
                go_wp2_with fail
                refine (before_is _ _ _ HB2'.out _ (Hyl.out k) (Hxl.out k)).mono ?_
                rintro e w' ⟨rfl, rfl⟩
                go_wp2
                go_round
                case rel => exact ⟨k + 1, by omega, by go_num, Hnew⟩
                case measure => simp [intOf]; omega
        · have g0 : ¬ (k : Int) < x.length := by omega
          have g1 : ¬ (k : Int) < y.length := by omega
          have Hv2 := Lib.hid (show less a.data.toList b.data.toList = false by
            rw [Hv.out, hcmp.out, List.drop_of_length_le (by omega), List.drop_of_length_le (by omega)]; rfl)
          clear hlt
          go_wp2
          go_ret
          exact ⟨by rw [Hv2.out]; rfl, hbb⟩

end Go.Proofs.YtaahdhpljlkfjaaGreat.Ver

/- version.Compare answers as the document says, at every two texts. -/
namespace Go.Proofs.YtaahdhpljlkfjaaGreat.Ver
open Go.RowKit Go.Shelf
attribute [local go_sem] Oper.semAt_some

theorem mayI_range (l : Bs) : 0 ≤ mayI l ∧ mayI l ≤ 1 := by unfold mayI; split <;> omega
theorem compare_none {a b : Bs} (h : (may a && may b) = false) : compare a b = mayI a - mayI b := by unfold compare; rw [h]; rfl
theorem compare_both {a b : Bs} (h : may a = true) (h2 : may b = true) : compare a b = cmpParts (cut 46 a) (cut 46 b) := by unfold compare; rw [h, h2]; rfl

theorem may_is (s : ByteArray) (b : Bool) (h : may s.data.toList = b) (w : World) :
    Calls Tryz.prog 67 #[.string s] w fun e w' => e = .returned (.bool b) ∧ Below w.heap.size w w' := by
  subst h; exact may_any s w

set_option maxHeartbeats 800000 in
theorem compare_out1 (a b : ByteArray) (w : World) (h : may a.data.toList = false) :
    Calls Tryz.prog 48 #[.string a, .string b] w fun e w' => e = .returned (.int .i64 (compare a.data.toList b.data.toList)) ∧ Below w.heap.size w w' := by
  rw [compare_none (by rw [h]; rfl)]
  obtain ⟨x, hx⟩ : ∃ x, mayI a.data.toList = x := ⟨_, rfl⟩
  obtain ⟨y, hy⟩ : ∃ y, mayI b.data.toList = y := ⟨_, rfl⟩
  have x1 := mayI_range a.data.toList
  have y1 := mayI_range b.data.toList
  rw [hx] at x1 ⊢
  rw [hy] at y1 ⊢
  obtain ⟨x1, x2⟩ := x1
  obtain ⟨y1, y2⟩ := y1
  have Hx := Lib.hid hx
  have Hy := Lib.hid hy
  have Hm := Lib.hid h
  clear hx hy h
  go_enter Tryz.func48, Tryz.ntmps48
  go_wp2_with fail
  refine (may_is a false Hm.out _).mono ?_
  rintro e w1 ⟨rfl, hb1⟩
  have cK : w1.cell? ⟨w.heap.size, 0, none⟩ = some (.int .i64 0) := (hb1.cell (by simp)).trans (cell_new_l w _ _).1
  have fK : w1.frozen? ⟨w.heap.size, 0, none⟩ = false := (hb1.frozen (by simp)).trans (cell_new_l w _ _).2
  go_wp2_with fail
  refine (rankOfText_any a _).mono ?_
  rintro e w2 ⟨rfl, hb2⟩
  rw [Hx.out]
  go_wp2_with fail
  refine (rankOfText_any b _).mono ?_
  rintro e w3 ⟨rfl, hb3⟩
  rw [Hy.out]
  have hs1 := hb1.size
  have hs2 := hb2.size
  have hs3 := hb3.size
  simp only [World.size_alloc] at hs1
  have hb12 := hb2.trans (hb3.mono hb2.size)
  have c3 : w3.cell? ⟨w.heap.size, 0, none⟩ = some (.int .i64 0) := (hb12.cell (by simp; omega)).trans cK
  have f3 : w3.frozen? ⟨w.heap.size, 0, none⟩ = false := (hb12.frozen (by simp; omega)).trans fK
  go_wp2
  refine bodyPost_ret (v := .int .i64 (x - y)) (by simp [results, Tryz.results48, go_sem, c3, World.cell?_setCell_same']) rfl ⟨rfl, ?_⟩
  exact ((((Below.refl _ w).alloc (Nat.le_refl _) _).trans (hb1.mono (by simp))).trans (hb12.mono (by omega))).setCell (p := ⟨w.heap.size, 0, none⟩) (Nat.le_refl _) _

set_option maxHeartbeats 800000 in
theorem compare_out2 (a b : ByteArray) (w : World) (h : may a.data.toList = true) (h2 : may b.data.toList = false) :
    Calls Tryz.prog 48 #[.string a, .string b] w fun e w' => e = .returned (.int .i64 (compare a.data.toList b.data.toList)) ∧ Below w.heap.size w w' := by
  rw [compare_none (by rw [h2, Bool.and_false])]
  obtain ⟨x, hx⟩ : ∃ x, mayI a.data.toList = x := ⟨_, rfl⟩
  obtain ⟨y, hy⟩ : ∃ y, mayI b.data.toList = y := ⟨_, rfl⟩
  have x1 := mayI_range a.data.toList
  have y1 := mayI_range b.data.toList
  rw [hx] at x1 ⊢
  rw [hy] at y1 ⊢
  obtain ⟨x1, x2⟩ := x1
  obtain ⟨y1, y2⟩ := y1
  have Hx := Lib.hid hx
  have Hy := Lib.hid hy
  have Hm := Lib.hid h
  have Hm2 := Lib.hid h2
  clear hx hy h h2
  go_enter Tryz.func48, Tryz.ntmps48
  go_wp2_with fail
  refine (may_is a true Hm.out _).mono ?_
  rintro e w0 ⟨rfl, hb0⟩
  go_wp2_with fail
  refine (may_is b false Hm2.out _).mono ?_
  rintro e w1 ⟨rfl, hb01⟩
  have hb1 := hb0.trans (hb01.mono hb0.size)
  have cK : w1.cell? ⟨w.heap.size, 0, none⟩ = some (.int .i64 0) := (hb1.cell (by simp)).trans (cell_new_l w _ _).1
  have fK : w1.frozen? ⟨w.heap.size, 0, none⟩ = false := (hb1.frozen (by simp)).trans (cell_new_l w _ _).2
  go_wp2_with fail
  refine (rankOfText_any a _).mono ?_
  rintro e w2 ⟨rfl, hb2⟩
  rw [Hx.out]
  go_wp2_with fail
  refine (rankOfText_any b _).mono ?_
  rintro e w3 ⟨rfl, hb3⟩
  rw [Hy.out]
  have hs1 := hb1.size
  have hs2 := hb2.size
  have hs3 := hb3.size
  simp only [World.size_alloc] at hs1
  have hb12 := hb2.trans (hb3.mono hb2.size)
  have c3 : w3.cell? ⟨w.heap.size, 0, none⟩ = some (.int .i64 0) := (hb12.cell (by simp; omega)).trans cK
  have f3 : w3.frozen? ⟨w.heap.size, 0, none⟩ = false := (hb12.frozen (by simp; omega)).trans fK
  go_wp2
  refine bodyPost_ret (v := .int .i64 (x - y)) (by simp [results, Tryz.results48, go_sem, c3, World.cell?_setCell_same']) rfl ⟨rfl, ?_⟩
  exact ((((Below.refl _ w).alloc (Nat.le_refl _) _).trans (hb1.mono (by simp))).trans (hb12.mono (by omega))).setCell (p := ⟨w.heap.size, 0, none⟩) (Nat.le_refl _) _

theorem cut_part_le (c : UInt8) : ∀ (l : Bs), ∀ p ∈ cut c l, p.length ≤ l.length
  | [], p, hp => by simp [cut] at hp; simp [hp]
  | d :: r, p, hp => by
    have ih := cut_part_le c r
    rw [cut] at hp
    split at hp
    · rcases List.mem_cons.1 hp with rfl | h
      · simp
      · have := ih p h; simp; omega
    · split at hp
      · simp at hp; subst hp; simp
      · rename_i q qs hq
        rcases List.mem_cons.1 hp with rfl | h
        · have := ih q (by rw [hq]; simp); simp; omega
        · have := ih p (by rw [hq]; simp [h]); simp; omega

theorem comparePart_is (p q : Bs) (n : Int) (hp : p.length ≤ 1000000) (hq : q.length ≤ 1000000) (h : cmpPart p q = n) (w : World) :
    Calls Tryz.prog 71 #[.string ⟨p.toArray⟩, .string ⟨q.toArray⟩] w fun e w' => e = .returned (.int .i64 n) ∧ w = w' := by
  have := comparePart_any ⟨p.toArray⟩ ⟨q.toArray⟩ w (by unfold maxLen; show p.toArray.size ≤ _; simp; omega) (by unfold maxLen; show q.toArray.size ≤ _; simp; omega)
  simpa [h] using this

/-- The parts of p are those of y, as far as p goes. -/
def prefEq (p y : List Bs) : Prop := ∀ rest, cmpParts (p ++ rest) y = cmpParts rest (y.drop p.length)
theorem prefEq_nil (y : List Bs) : prefEq [] y := fun _ => rfl
theorem hd_drop (y : List Bs) (n : Nat) : hd (y.drop n) = y.getD n [] := by
  induction y generalizing n with
  | nil => simp [hd]
  | cons q r ih => cases n with
    | zero => simp [hd]
    | succ n => simpa using ih n
theorem prefEq_snoc {p y : List Bs} {x : Bs} (h : prefEq p y) (hx : cmpPart x (y.getD p.length []) = 0) : prefEq (p ++ [x]) y := by
  intro rest
  rw [List.append_assoc, h, List.singleton_append, cps_zero (by rw [hd_drop]; exact hx), List.tail_drop]; simp
theorem prefEq_stop {p y : List Bs} {x : Bs} (h : prefEq p y) (hx : cmpPart x (hd (y.drop p.length)) ≠ 0) (rest : List Bs) : cmpParts (p ++ [x] ++ rest) y = cmpPart x (hd (y.drop p.length)) := by
  rw [List.append_assoc, h, List.singleton_append, cps_part hx]
theorem texts_get (l : List Bs) (i : Nat) (h : i < l.length) : (texts l)[i]? = some (.string ⟨(l.getD i []).toArray⟩) := by
  simp [texts, List.getElem?_eq_getElem h]

/-- What holds between two rounds. -/
def Inv (w w1 w2 : World) (g k cap : Nat) (y : List Bs) (pre : List Pt) (W : World) : Prop :=
  prefEq (bss pre) y ∧ (∃ o c, Boxed W w2.heap.size 47 (.slice (some ⟨g, o, none⟩) (k + 1 - pre.length) c) ∧ k + 1 - pre.length ≤ c ∧ (0 < k + 1 - pre.length → o = pre.length)) ∧
    W.cell? ⟨w.heap.size, 0, none⟩ = some (.int .i64 0) ∧ W.frozen? ⟨w.heap.size, 0, none⟩ = false ∧ W.ownsRow w1.heap.size 9 1 (.slice (some ⟨g, 0, none⟩) (k + 1) cap) (k + 1) (texts y)
theorem inv_own (w w1 w2 : World) (g k cap : Nat) (y : List Bs) : Own (Inv w w1 w2 g k cap y) := by
  rintro s X Y row ⟨h1, ⟨o, c, hv, h2, h3⟩, hcr, hfr, hr⟩ hg hrow
  refine ⟨h1, ⟨o, c, boxed_own w2.heap.size 47 (fun _ : Unit => .slice (some ⟨g, o, none⟩) (k + 1 - s.length) c) () X Y row hv hg hrow, h2, h3⟩, cell_kept hcr hg hrow, (frozen_kept hcr hg hrow).trans hfr, hr.kept hg (.inr fun e' => ?_)⟩
  obtain ⟨o', ho, hc⟩ := hrow g (by simpa [Value.ownBlock] using e'.symm)
  rcases hr.2 with ⟨h', _⟩ | ⟨g', cap', cur, h', _, hgb, _⟩
  · simp at h'
  · simp only [Value.slice.injEq, Option.some.injEq, Addr.mk.injEq, and_true, true_and] at h'
    obtain ⟨rfl, _⟩ := h'
    rw [hgb] at ho; cases ho; cases hc

set_option maxRecDepth 100000 in
set_option maxHeartbeats 4000000 in
theorem compare_in (a b : ByteArray) (w : World) (h : may a.data.toList = true) (h2 : may b.data.toList = true) :
    CallsIn W0 8 Tryz.prog 48 #[.string a, .string b] w fun e w' => e = .returned (.int .i64 (cmpParts (cut 46 a.data.toList) (cut 46 b.data.toList))) ∧ Below w.heap.size w w' := by
  have hsa := (may_cut h).1
  rw [size_toList] at hsa
  have hla := (may_cut h).2.1
  have hlb := (may_cut h2).2.1
  have hpb : partsOf b.data.toList = cut 46 b.data.toList := by unfold partsOf; rw [h2]; rfl
  obtain ⟨y, hy⟩ : ∃ y, cut 46 b.data.toList = y := ⟨_, rfl⟩
  obtain ⟨z, hz⟩ : ∃ z, cut 46 a.data.toList = z := ⟨_, rfl⟩
  have hyp : ∀ p ∈ y, p.length ≤ 1000000 := by
    intro p hp; rw [← hy] at hp
    have := cut_part_le 46 b.data.toList p hp
    have h3 := (may_cut h2).1
    omega
  obtain ⟨k, hk⟩ : ∃ k, y.length = k + 1 := ⟨y.length - 1, by have := cut_ne 46 b.data.toList; rw [hy] at this; cases y with | nil => exact absurd rfl this | cons _ _ => simp⟩
  rw [hy, hk] at hlb
  rw [hy] at hpb ⊢
  rw [hz] at hla ⊢
  have Hm := Lib.hid h
  have Hm2 := Lib.hid h2
  have Hpb := Lib.hid hpb
  have Hk := Lib.hid hk
  have Hz := Lib.hid hz
  clear h h2 hpb hy hk hz
  refine callsIn_of_wp_marks Tryz.func48 rfl trivial ?_ rfl
  simp only [Tryz.ntmps48, List.size_toArray, List.length_cons, List.length_nil, Nat.reduceAdd, Nat.reduceSub, Array.replicate_succ, Array.replicate_zero, List.push_toArray, List.append_toArray, List.nil_append, List.cons_append]
  gi_wp2_with fail
  refine ⟨trivial, ?_⟩
  refine (callsIn_wide.2 (may_is a true Hm.out _)).mono ?_
  rintro e w0 ⟨rfl, hb0⟩
  gi_wp2_with fail
  refine ⟨trivial, ?_⟩
  refine (callsIn_wide.2 (may_is b true Hm2.out _)).mono ?_
  rintro e w1 ⟨rfl, hb01⟩
  have hb1 := hb0.trans (hb01.mono hb0.size)
  have cK : w1.cell? ⟨w.heap.size, 0, none⟩ = some (.int .i64 0) := (hb1.cell (by simp)).trans (cell_new_l w _ _).1
  have fK : w1.frozen? ⟨w.heap.size, 0, none⟩ = false := (hb1.frozen (by simp)).trans (cell_new_l w _ _).2
  gi_wp2_with fail
  refine ⟨trivial, ?_⟩
  refine (callsIn_wide.2 (parts_own b _)).mono ?_
  rintro e w2 ⟨v, rfl, hr, hb2⟩
  rw [Hpb.out, Hk.out] at hr
  obtain ⟨g, cap, rfl⟩ := ownsRow_succ hr
  have Hr := Lib.hid hr
  clear hr Hm2 Hpb
  gi_wp2_with fail
  refine ⟨trivial, ?_⟩
  refine (callsIn_wide.2 (parts_any a _)).mono ?_
  rintro e w3 ⟨rfl, rfl⟩
  gi_wp2_with fail
  have hs1 := hb1.size
  have hs2 := hb2.size
  simp only [World.size_alloc] at hs1
  have hgw : w1.heap.size ≤ g ∧ g < w2.heap.size := Hr.out.lt g rfl
  have bO := Boxed.new w2 47 (.slice (some ⟨g, 0, none⟩) (k + 1) cap)
  have cP := cell_new_l (w2.alloc (.cells #[.slice (some ⟨g, 0, none⟩) (k + 1) cap] 47)) (.string a) 9
  rw [World.size_alloc] at cP
  have hB0 : Below w.heap.size w ((w2.alloc (.cells #[.slice (some ⟨g, 0, none⟩) (k + 1) cap] 47)).alloc (.cells #[.string a] 9)) :=
    (((((Below.refl _ w).alloc (Nat.le_refl _) _).trans (hb1.mono (by simp))).trans (hb2.mono (by omega))).alloc (by omega) _).alloc (by simp; omega) _
  have cR2 : w2.cell? ⟨w.heap.size, 0, none⟩ = some (.int .i64 0) := (hb2.cell (by simp; omega)).trans cK
  have fR2 : w2.frozen? ⟨w.heap.size, 0, none⟩ = false := (hb2.frozen (by simp; omega)).trans fK
  have hcap : k + 1 ≤ cap ∧ cap ≤ maxLen := by
    rcases Hr.out.2 with ⟨h', _⟩ | ⟨g', cap', cur, h', _, _, h5, h6, _⟩
    · simp at h'
    · simp only [Value.slice.injEq] at h'; obtain ⟨_, _, rfl⟩ := h'; exact ⟨h5, h6⟩
  refine wpIn_rangeFunc_ownF rfl (by omega : 1 ≤ 8) (gf := 94) (lb := #[.pointer (some ⟨w2.heap.size + 1, 0, none⟩)]) rfl trivial (enters_of Tryz.func94 (by kernel_rfl) rfl)
    (parts_stops 7 (by omega) (w2.heap.size + 1) a _ (Below w.heap.size) cP.1 (by omega)) belowK_t (belowK_b (by simp; omega)) (Below.refl _ _) (fun _ => rfl)
    (fun pre W => Inv w w1 w2 g k cap y pre W ∧ Below w.heap.size w W)
    (fun c pre W => ((c = .ret ∧ ∃ (p : List Bs) (x : Bs) (n : Int), bss pre = p ++ [x] ∧ prefEq p y ∧ cmpPart x (hd (y.drop p.length)) = n ∧ n ≠ 0 ∧ W.cell? ⟨w.heap.size, 0, none⟩ = some (.int .i64 n)) ∧ Below w.heap.size w W))
    (OwnFrom.and (Own.from (inv_own w w1 w2 g k cap y) _) (ownFrom_below (Nat.le_refl _) (by simp; omega)))
    (fun c => OwnFrom.and (Own.from (fun s A B row hs hg hr => ⟨hs.1, by obtain ⟨p, x, n, e1, e2, e3, e4, e5⟩ := hs.2; exact ⟨p, x, n, e1, e2, e3, e4, cell_kept e5 hg hr⟩⟩) _) (ownFrom_below (Nat.le_refl _) (by simp; omega)))
    ⟨⟨prefEq_nil y, ⟨0, cap, bO.alloc _, by simp; exact hcap.1, by simp⟩, cell_alloc_l _ (cell_alloc_l _ cR2), frozen_alloc_l _ (cell_alloc_l _ cR2) (frozen_alloc_l _ cR2 fR2), (Hr.out.alloc _).alloc _⟩, hB0⟩
    (fun x => { tmps := #[.string a, .string b, undef, undef, .pointer (some ⟨w.heap.size, 0, none⟩), .pointer (some ⟨w2.heap.size, 0, none⟩), .string ⟨x.1.toArray⟩, undef, undef, .string a, .bool true, .bool false, .bool false, .string b, .bool true, .bool false, .bool false, undef, undef, undef, undef, undef, .string b, .slice (some ⟨g, 0, none⟩) (k + 1) cap, .string a, .func (.func 94) #[] #[.pointer (some ⟨w2.heap.size + 1, 0, none⟩)], .string ⟨x.1.toArray⟩, undef, undef, undef, undef, undef, undef, undef, undef, undef, undef, undef, undef, undef, undef, undef, undef, undef, undef, undef, undef, undef], defers := [] }) ?assign ?body ?done ?stop
  case assign =>
    intro l x W K hK
    simp only [encP]
    gi_wp2
    exact hK
  case body =>
    rintro l pre x W ⟨⟨hpe, ⟨o, c, hO, hc1, hc2⟩, hcr, hfr, hown⟩, hB⟩ hplt
    have hcO := hO.cell
    have hfO := hO.frozen
    by_cases hrem : pre.length < k + 1
    · obtain ⟨r, hr⟩ : ∃ r, k + 1 - pre.length = r + 1 := ⟨k - pre.length, by omega⟩
      rw [hr] at hcO hc1
      have ho := hc2 (by omega)
      subst ho
      have hlen : (y[pre.length]?.getD []).length ≤ 1000000 := by
        rw [List.getElem?_eq_getElem (by rw [Hk.out]; omega)]; exact hyp _ (List.getElem_mem _)
      have hcell : W.cell? ⟨g, pre.length, none⟩ = some (.string ⟨(y[pre.length]?.getD []).toArray⟩) := by
        rw [hown.cellAt pre.length (by omega), texts_get y pre.length (by rw [Hk.out]; omega), List.getD_eq_getElem?_getD]
      obtain ⟨n, hn⟩ : ∃ n, cmpPart x.1 (y[pre.length]?.getD []) = n := ⟨_, rfl⟩
      have hnr := cp_range x.1 (y[pre.length]?.getD [])
      rw [hn] at hnr
      have hpos : (0 : Int) < (r : Int) + 1 := by omega
      have hmx : Tryz.prog.follows .mixedOrders = true := by kernel_rfl
      have hgO : g ≠ w2.heap.size := by omega
      have hRO : w.heap.size ≠ w2.heap.size := by omega
      have hbl : (bss pre).length = pre.length := by simp [bss]
      have hnext : ∀ o' c' : Nat, r ≤ c' → (0 < r → o' = pre.length + 1) → n = 0 →
          Inv w w1 w2 g k cap y (pre ++ [x]) (W.setCell ⟨w2.heap.size, 0, none⟩ (.slice (some ⟨g, o', none⟩) r c')).drew := by
        intro o' c' h1 h2 h3
        refine ⟨by rw [bss_snoc]; exact prefEq_snoc hpe (by rw [hbl, List.getD_eq_getElem?_getD, hn]; exact h3), ⟨o', c', ?_, ?_, ?_⟩, ?_, ?_, ?_⟩
        · have := Boxed.set (.slice (some ⟨g, o', none⟩) r c') hO
          rw [show k + 1 - (pre ++ [x]).length = r by simp; omega]; exact this
        · simp; omega
        · simp; omega
        · show (W.setCell _ _).cell? _ = _
          rw [World.cell?_setCell_other _ _ _ _ (by simp; try omega)]; exact hcr
        · show (W.setCell _ _).frozen? _ = _
          rw [World.frozen?_setCell]; exact hfr
        · exact ownsRow_setCell_other (a := ⟨w2.heap.size, 0, none⟩) hown (by simp [Value.ownBlock]; exact hgO) _
      have hRst : ∀ v : Value, (W.setCell ⟨w2.heap.size, 0, none⟩ v).cell? ⟨w.heap.size, 0, none⟩ = some (.int .i64 0) := fun v => by
        rw [World.cell?_setCell_other _ _ _ _ (by simp; try omega)]; exact hcr
      have hRfz : ∀ v : Value, (W.setCell ⟨w2.heap.size, 0, none⟩ v).frozen? ⟨w.heap.size, 0, none⟩ = false := fun v => by
        rw [World.frozen?_setCell]; exact hfr
      have hstop : n ≠ 0 → ∃ (p : List Bs) (x' : Bs) (m : Int), bss (pre ++ [x]) = p ++ [x'] ∧ prefEq p y ∧ cmpPart x' (hd (y.drop p.length)) = m ∧ m ≠ 0 ∧ m = n := fun h0 =>
        ⟨bss pre, x.1, n, bss_snoc _ _, hpe, by rw [hd_drop, hbl, List.getD_eq_getElem?_getD]; exact hn, h0, rfl⟩
      have Hn := Lib.hid hn
      have Hnext := Lib.hid hnext
      have Hstop := Lib.hid hstop
      clear hc2 hr hn hnext hstop hpe hown hbl hO
      by_cases hn0 : n = 0
      · subst hn0
        by_cases hc9 : c = 1
        · subst hc9
          obtain rfl : r = 0 := by omega
          gi_wp2_with fail
          gi_region_with_o (fail)
          all_goals
            gi_wp2_with fail
            refine ⟨trivial, ?_⟩
            refine (CallsIn.inRound l (callsIn_wide.2 (comparePart_is x.1 _ 0 x.2 hlen Hn.out _))).mono ?_
            rintro e w' ⟨rfl, rfl⟩
            gi_wp2
            exact ⟨((KeepsOthers.setCell _ _ _).trans (KeepsOthers.drew _)), ((Below.refl _ _).setCell (p := ⟨w2.heap.size, 0, none⟩) (by simp; omega) _).drew, Hnext.out pre.length 0 (by omega) (by omega) (by trivial), (hB.setCell (p := ⟨w2.heap.size, 0, none⟩) (by simp; omega) _).drew⟩
        · have hc8 : ¬ (c : Int) = 1 := by omega
          gi_wp2_with fail
          gi_region_with_o (fail)
          all_goals
            gi_wp2_with fail
            refine ⟨trivial, ?_⟩
            refine (CallsIn.inRound l (callsIn_wide.2 (comparePart_is x.1 _ 0 x.2 hlen Hn.out _))).mono ?_
            rintro e w' ⟨rfl, rfl⟩
            gi_wp2
            exact ⟨((KeepsOthers.setCell _ _ _).trans (KeepsOthers.drew _)), ((Below.refl _ _).setCell (p := ⟨w2.heap.size, 0, none⟩) (by simp; omega) _).drew, Hnext.out (pre.length + 1) (c - 1) (by omega) (by omega) (by trivial), (hB.setCell (p := ⟨w2.heap.size, 0, none⟩) (by simp; omega) _).drew⟩
      · have hnb : (n != 0) = true := by simpa using hn0
        by_cases hc9 : c = 1
        · subst hc9
          obtain rfl : r = 0 := by omega
          gi_wp2_with fail
          gi_region_with_o (fail)
          all_goals
            gi_wp2_with fail
            refine ⟨trivial, ?_⟩
            refine (CallsIn.inRound l (callsIn_wide.2 (comparePart_is x.1 _ n x.2 hlen Hn.out _))).mono ?_
            rintro e w' ⟨rfl, rfl⟩
            have hq1 := hRst (.slice (some ⟨g, pre.length, none⟩) 0 0)
            have hq2 := hRfz (.slice (some ⟨g, pre.length, none⟩) 0 0)
            gi_wp2
            obtain ⟨p, x', m, e1, e2, e3, e4, e5⟩ := Hstop.out hn0
            exact ⟨((KeepsOthers.setCell _ _ _).trans (KeepsOthers.setCell _ _ _)).trans (KeepsOthers.drew _), ⟨rfl, p, x', m, e1, e2, e3, e4, by rw [e5]; exact World.cell?_setCell_same' _ _ _ (by rw [hq1]; rfl)⟩, ((hB.setCell (p := ⟨w2.heap.size, 0, none⟩) (by simp; omega) _).setCell (p := ⟨w.heap.size, 0, none⟩) (Nat.le_refl _) _).drew⟩
        · have hc8 : ¬ (c : Int) = 1 := by omega
          gi_wp2_with fail
          gi_region_with_o (fail)
          all_goals
            gi_wp2_with fail
            refine ⟨trivial, ?_⟩
            refine (CallsIn.inRound l (callsIn_wide.2 (comparePart_is x.1 _ n x.2 hlen Hn.out _))).mono ?_
            rintro e w' ⟨rfl, rfl⟩
            have hq1 := hRst (.slice (some ⟨g, (pre.length + 1), none⟩) r (c - 1))
            have hq2 := hRfz (.slice (some ⟨g, (pre.length + 1), none⟩) r (c - 1))
            gi_wp2
            obtain ⟨p, x', m, e1, e2, e3, e4, e5⟩ := Hstop.out hn0
            exact ⟨((KeepsOthers.setCell _ _ _).trans (KeepsOthers.setCell _ _ _)).trans (KeepsOthers.drew _), ⟨rfl, p, x', m, e1, e2, e3, e4, by rw [e5]; exact World.cell?_setCell_same' _ _ _ (by rw [hq1]; rfl)⟩, ((hB.setCell (p := ⟨w2.heap.size, 0, none⟩) (by simp; omega) _).setCell (p := ⟨w.heap.size, 0, none⟩) (Nat.le_refl _) _).drew⟩
    · have hr : k + 1 - pre.length = 0 := by omega
      rw [hr] at hcO
      have hyn : y.getD pre.length [] = [] := by rw [List.getD_eq_getElem?_getD, List.getElem?_eq_none (by rw [Hk.out]; omega)]; rfl
      obtain ⟨n, hn⟩ : ∃ n, cmpPart x.1 [] = n := ⟨_, rfl⟩
      have hbl : (bss pre).length = pre.length := by simp [bss]
      have hnext : n = 0 → Inv w w1 w2 g k cap y (pre ++ [x]) W := by
        intro h3
        refine ⟨by rw [bss_snoc]; exact prefEq_snoc hpe (by rw [hbl, hyn, hn]; exact h3), ⟨o, c, ?_, by simp; omega, by simp; omega⟩, hcr, hfr, hown⟩
        rw [show k + 1 - (pre ++ [x]).length = k + 1 - pre.length by simp; omega]; exact hO
      have hstop : n ≠ 0 → ∃ (p : List Bs) (x' : Bs) (m : Int), bss (pre ++ [x]) = p ++ [x'] ∧ prefEq p y ∧ cmpPart x' (hd (y.drop p.length)) = m ∧ m ≠ 0 ∧ m = n := fun h0 =>
        ⟨bss pre, x.1, n, bss_snoc _ _, hpe, by rw [hd_drop, hbl, hyn]; exact hn, h0, rfl⟩
      have Hn := Lib.hid hn
      have Hnext := Lib.hid hnext
      have Hstop := Lib.hid hstop
      clear hc2 hr hn hnext hstop hpe hown hbl hO hyn
      by_cases hn0 : n = 0
      · subst hn0
        gi_wp2_with fail
        refine ⟨trivial, ?_⟩
        refine (CallsIn.inRound l (callsIn_wide.2 (comparePart_is x.1 [] 0 x.2 (by simp) Hn.out _))).mono ?_
        rintro e w' ⟨rfl, rfl⟩
        gi_wp2
        exact ⟨KeepsOthers.refl _, Below.refl _ _, Hnext.out (by trivial), hB⟩
      · have hnb : (n != 0) = true := by simpa using hn0
        gi_wp2_with fail
        refine ⟨trivial, ?_⟩
        refine (CallsIn.inRound l (callsIn_wide.2 (comparePart_is x.1 [] n x.2 (by simp) Hn.out _))).mono ?_
        rintro e w' ⟨rfl, rfl⟩
        gi_wp2
        obtain ⟨p, x', m, e1, e2, e3, e4, e5⟩ := Hstop.out hn0
        exact ⟨KeepsOthers.setCell _ _ _, ⟨rfl, p, x', m, e1, e2, e3, e4, by rw [e5]; exact World.cell?_setCell_same' _ _ _ (by rw [hcr]; rfl)⟩, hB.setCell (p := ⟨w.heap.size, 0, none⟩) (Nat.le_refl _) _⟩
  case done =>
    rintro D ys W hD hS ⟨⟨hpe, ⟨o, c, hO, hc1, hc2⟩, hcr, hfr, hown⟩, hB⟩ hK
    have hcO := hO.cell
    have hyl : ys.length = z.length := by rw [← Hz.out, ← hS]; simp [bss]
    have hfin : cmpParts z y = cmpParts [] (y.drop ys.length) := by
      have := hpe []
      rw [List.append_nil, hS, Hz.out] at this
      rw [this, hyl]
    by_cases hrem : ys.length < k + 1
    · obtain ⟨r, hr⟩ : ∃ r, k + 1 - ys.length = r + 1 := ⟨k - ys.length, by omega⟩
      rw [hr] at hcO hc1
      have ho := hc2 (by omega)
      subst ho
      have hlen : (y[ys.length]?.getD []).length ≤ 1000000 := by
        rw [List.getElem?_eq_getElem (by rw [Hk.out]; omega)]; exact hyp _ (List.getElem_mem _)
      have hcell : W.cell? ⟨g, ys.length, none⟩ = some (.string ⟨(y[ys.length]?.getD []).toArray⟩) := by
        rw [hown.cellAt ys.length (by omega), texts_get y ys.length (by rw [Hk.out]; omega), List.getD_eq_getElem?_getD]
      have hv : cmpParts z y = cmpPart [] (y[ys.length]?.getD []) := by
        rw [hfin, List.drop_eq_getElem_cons (by rw [Hk.out]; omega), cps_end, List.getElem?_eq_getElem (by rw [Hk.out]; omega)]; rfl
      obtain ⟨n, hn⟩ : ∃ n, cmpPart [] (y[ys.length]?.getD []) = n := ⟨_, rfl⟩
      rw [hn] at hv
      have hpos : (0 : Int) < (r : Int) + 1 := by omega
      have Hn := Lib.hid hn
      have Hv := Lib.hid hv
      clear hS hpe hc2 hr hfin hyl hn hv hown hO
      gi_wp2_with fail
      refine ⟨trivial, ?_⟩
      refine (callsIn_wide.2 (comparePart_is [] _ n (by simp) hlen Hn.out _)).mono ?_
      rintro e w' ⟨rfl, rfl⟩
      gi_wp2
      have hK' := (KeepsOthers.setCell W ⟨w.heap.size, 0, none⟩ (.int .i64 n)).same D _ hK rfl
      refine ⟨by simp, .inl ⟨_, _, rfl, run_takeDeferred hK', ?_⟩⟩
      have hc5 := cell_kept (World.cell?_setCell_same' W ⟨w.heap.size, 0, none⟩ (.int .i64 n) (by rw [hcr]; rfl)) (grownBy_putObj' _ D (.deferred none)) (fun r e => by cases e; exact ⟨_, hK', rfl⟩)
      refine ⟨.int .i64 n, ?_, by rw [Hv.out], (hB.setCell (p := ⟨w.heap.size, 0, none⟩) (Nat.le_refl _) _).trans (belowK_b (w := w) (Nat.le_refl _) _ D _ _ (by simp at hD; omega) hK' rfl rfl)⟩
      simp [results, Tryz.f48, go_sem, hc5]
    · have hr : k + 1 - ys.length = 0 := by omega
      rw [hr] at hcO
      have hv : cmpParts z y = 0 := by rw [hfin, List.drop_of_length_le (by rw [Hk.out]; omega)]; rfl
      have Hv := Lib.hid hv
      clear hS hpe hc2 hr hfin hyl hv hown hO
      gi_wp2
      have hK' := (KeepsOthers.setCell W ⟨w.heap.size, 0, none⟩ (.int .i64 0)).same D _ hK rfl
      refine ⟨by simp, .inl ⟨_, _, rfl, run_takeDeferred hK', ?_⟩⟩
      have hc5 := cell_kept (World.cell?_setCell_same' W ⟨w.heap.size, 0, none⟩ (.int .i64 0) (by rw [hcr]; rfl)) (grownBy_putObj' _ D (.deferred none)) (fun r e => by cases e; exact ⟨_, hK', rfl⟩)
      refine ⟨.int .i64 0, ?_, by rw [Hv.out], (hB.setCell (p := ⟨w.heap.size, 0, none⟩) (Nat.le_refl _) _).trans (belowK_b (w := w) (Nat.le_refl _) _ D _ _ (by simp at hD; omega) hK' rfl rfl)⟩
      simp [results, Tryz.f48, go_sem, hc5]
  case stop =>
    rintro D c pre W hD hpre ⟨⟨rfl, p, x, n, e1, e2, e3, e4, hcr⟩, hB⟩ hK
    have hv : cmpParts z y = n := by
      obtain ⟨rest, hrest⟩ := hpre
      rw [e1, Hz.out] at hrest
      rw [← hrest, prefEq_stop e2 (by rw [e3]; exact e4), e3]
    have Hv := Lib.hid hv
    clear hv hpre e1 e2 e3
    gi_wp2
    refine ⟨by simp, .inl ⟨_, _, rfl, run_takeDeferred hK, ?_⟩⟩
    have hc5 := cell_kept hcr (grownBy_putObj' _ D (.deferred none)) (fun r e => by cases e; exact ⟨_, hK, rfl⟩)
    refine ⟨.int .i64 n, ?_, by rw [Hv.out], hB.trans (belowK_b (w := w) (Nat.le_refl _) W D _ _ (by simp at hD; omega) hK rfl rfl)⟩
    simp [results, Tryz.f48, go_sem, hc5]

theorem compare_any (a b : ByteArray) (w : World) :
    Calls Tryz.prog 48 #[.string a, .string b] w fun e w' => e = .returned (.int .i64 (compare a.data.toList b.data.toList)) ∧ Below w.heap.size w w' := by
  cases h : may a.data.toList with
  | false => exact compare_out1 a b w h
  | true => cases h2 : may b.data.toList with
    | false => exact compare_out2 a b w h h2
    | true => rw [compare_both h h2]; exact callsIn_wide.1 (compare_in a b w h h2)

end Go.Proofs.YtaahdhpljlkfjaaGreat.Ver
