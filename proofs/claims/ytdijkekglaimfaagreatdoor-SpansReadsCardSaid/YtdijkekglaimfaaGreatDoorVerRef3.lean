/- ref.May, ref.at, ref.before, ref.Less, ref.Compare, ref.Great, ref.Same. -/
import Derived.Test.YtdijkekglaimfaaGreatDoorVerRef2
import Derived.Test.YtdijkekglaimfaaGreatDoorVerPart
namespace Go.Proofs.YtdijkekglaimfaaGreatDoor.Ver
open Go.RowKit

/-- The text at a place; behind the last one an empty one. -/
def nth (xs : List Bs) (i : Nat) : Bs := xs[i]?.getD []
theorem nth_lt {xs : List Bs} {i : Nat} (h : i < xs.length) : nth xs i = xs[i] := by unfold nth; rw [List.getElem?_eq_getElem h]; rfl
theorem nth_ge {xs : List Bs} {i : Nat} (h : xs.length ≤ i) : nth xs i = [] := by unfold nth; rw [List.getElem?_eq_none h]; rfl

/-- A list of texts in memory, whoever laid it. -/
def StrAt (w : World) (v : Value) (xs : List Bs) : Prop :=
  ∃ ao cap, v = .slice ao xs.length cap ∧ (0 < xs.length → ∃ b off, ao = some ⟨b, off, none⟩ ∧ b < w.heap.size ∧ ∀ i, i < xs.length → w.cell? ⟨b, off + i, none⟩ = some (.string ⟨(nth xs i).toArray⟩))

theorem texts_get' (l : List Bs) (i : Nat) (h : i < l.length) : (texts l)[i]? = some (.string ⟨(nth l i).toArray⟩) := by
  rw [nth_lt h]; simp [texts, List.getElem?_eq_getElem h]

theorem ref_part_le (c : UInt8) : ∀ (l : Bs), ∀ p ∈ cut c l, p.length ≤ l.length
  | [], p, hp => by simp [cut] at hp; simp [hp]
  | d :: r, p, hp => by
    have ih := ref_part_le c r
    rw [cut] at hp
    split at hp
    · rcases List.mem_cons.1 hp with rfl | h
      · simp
      · have := ih p h; simp; omega
    · split at hp
      · simp at hp; subst hp; simp
      · rename_i q qs hq
        rcases List.mem_cons.1 hp with rfl | h
        · have := ih q (by rw [hq]; simp); simp; omega
        · have := ih p (by rw [hq]; simp [h]); simp; omega

theorem strAt_own {w : World} {base : Nat} {v : Value} {xs : List Bs} (h : w.ownsRow base 9 1 v xs.length (texts xs)) : StrAt w v xs := by
  rcases h.2 with ⟨rfl, h0⟩ | ⟨g, cap, cur, rfl, hb, hg, _⟩
  · exact ⟨none, 0, by rw [h0], fun hp => by omega⟩
  · refine ⟨_, cap, rfl, fun _ => ⟨g, 0, rfl, lt_of_block hg, fun i hi => ?_⟩⟩
    rw [Nat.zero_add, h.cellAt i (by omega), texts_get' xs i hi]
theorem StrAt.below {w w' : World} {v : Value} {xs : List Bs} (h : StrAt w v xs) (hb : Below w.heap.size w w') : StrAt w' v xs := by
  obtain ⟨ao, cap, rfl, h⟩ := h
  refine ⟨ao, cap, rfl, fun hp => ?_⟩
  obtain ⟨b, off, rfl, hlt, hc⟩ := h hp
  exact ⟨b, off, rfl, Nat.lt_of_lt_of_le hlt hb.size, fun i hi => (hb.cell hlt).trans (hc i hi)⟩

theorem refPart_is (p : Bs) (b : Bool) (h : part p = b) (hp : p.length ≤ 1000000) (w : World) :
    Calls Tryz.prog 49 #[.string ⟨p.toArray⟩] w fun e w' => e = .returned (.bool b) ∧ w = w' := by
  have := refPart_any ⟨p.toArray⟩ w (by unfold maxLen; show p.toArray.size ≤ _; simp; omega)
  simpa [h] using this

set_option maxHeartbeats 800000 in
theorem refMay_any (s : ByteArray) (w : World) :
    Calls Tryz.prog 28 #[.string s] w fun e w' => e = .returned (.bool (may s.data.toList)) ∧ Below w.heap.size w w' := by
  by_cases h0 : s.size = 0
  · have hl : s.data.toList = [] := List.eq_nil_of_length_eq_zero (by rw [size_toList]; exact h0)
    have Hv := Lib.hid (show may s.data.toList = false by rw [hl]; decide)
    have e1 : s.toList = [] := by rw [Lib.toList_data]; exact hl
    clear h0 hl
    go_enter Tryz.func28, Tryz.ntmps28
    go_wp2
    go_ret
    exact ⟨by rw [Hv.out]; rfl, Below.refl _ _⟩
  · have e1 : s.toList.isEmpty = false := by
      rw [Lib.toList_data]; cases h : s.data.toList with
      | nil => have := size_toList s; rw [h] at this; simp at this; omega
      | cons a b => rfl
    clear h0
    by_cases h40 : 40 < s.size
    · have Hv := Lib.hid (may_long (l := s.data.toList) (by rw [size_toList]; exact h40))
      have e2 : (40 : Int) < s.size := by omega
      clear h40
      go_enter Tryz.func28, Tryz.ntmps28
      go_wp2
      go_ret
      exact ⟨by rw [Hv.out]; rfl, Below.refl _ _⟩
    · have e2 : ¬ (40 : Int) < s.size := by omega
      have hs40 : s.size ≤ 40 := by omega
      obtain ⟨xs, hxs⟩ : ∃ xs, cut 46 s.data.toList = xs := ⟨_, rfl⟩
      have hmay : may s.data.toList = (decide (xs.length ≤ 8) && xs.all part) := by
        unfold may; rw [hxs, size_toList]
        have : decide (s.size ≤ 40) = true := by simpa using hs40
        rw [this]; rfl
      have hxl : ∀ i, (nth xs i).length ≤ 1000000 := by
        intro i
        by_cases hi : i < xs.length
        · rw [nth_lt hi]
          have := ref_part_le 46 s.data.toList xs[i] (by rw [hxs]; exact List.getElem_mem _)
          rw [size_toList] at this; omega
        · rw [nth_ge (by omega)]; simp
      have hxn : xs.length ≤ 41 := by rw [← hxs]; have := cut_le 46 s.data.toList; rw [size_toList] at this; omega
      have hcut := refCut_any s 46 46 rfl w (by omega)
      rw [hxs] at hcut
      have Hcut := Lib.hid hcut
      have Hmay := Lib.hid hmay
      clear h40 hxs hcut hmay
      go_enter Tryz.func28, Tryz.ntmps28
      go_wp2_with fail
      refine Hcut.out.mono ?_
      rintro e w1 ⟨v, rfl, hown, hb1⟩
      obtain ⟨ao, cap, rfl, hcell⟩ := strAt_own hown
      clear hown
      have Hcell := Lib.hid hcell
      clear hcell
      go_wp2_with fail
      go_loop [16] (fun i => ∃ k : Nat, k ≤ xs.length ∧ i = .int .i64 k ∧ Hid ((xs.take k).all part = true)) (fun i => xs.length - (intOf i).toNat)
      case atStart => exact ⟨0, Nat.zero_le _, rfl, Lib.hid (by simp)⟩
      case round =>
        obtain ⟨k, hk, rfl, hall⟩ := hrel
        by_cases hlt : k < xs.length
        · obtain ⟨b, off, rfl, _, hc⟩ := Hcell.out (by omega)
          have hck := hc k hlt
          clear hc
          cases hp : part (nth xs k) with
          | true =>
            have Hp := Lib.hid hp
            have hn : Hid ((xs.take (k + 1)).all part = true) := Lib.hid (by
              rw [List.take_succ_eq_append_getElem hlt, List.all_append, hall.out]
              rw [nth_lt hlt] at hp
              simp [hp])
            clear hp
            go_wp2_with fail
            refine (refPart_is _ true Hp.out (hxl k) _).mono ?_
            rintro e w' ⟨rfl, rfl⟩
            go_wp2
            go_round
            case rel => exact ⟨k + 1, by omega, by go_num, hn⟩
            case measure => simp [intOf]; omega
          | false =>
            have Hp := Lib.hid hp
            have Hv := Lib.hid (show may s.data.toList = false by
              rw [Hmay.out]
              have : xs.all part = false := List.all_eq_false.2 ⟨xs[k], List.getElem_mem _, by rw [nth_lt hlt] at hp; simp [hp]⟩
              rw [this]; simp)
            clear hp
            go_wp2_with fail
            refine (refPart_is _ false Hp.out (hxl k) _).mono ?_
            rintro e w' ⟨rfl, rfl⟩
            go_wp2
            go_ret
            exact ⟨by rw [Hv.out]; rfl, hb1⟩
        · have hv : may s.data.toList = decide (xs.length ≤ 8) := by
            have := hall.out
            rw [List.take_of_length_le (by omega)] at this
            rw [Hmay.out, this, Bool.and_true]
          have Hv := Lib.hid hv
          have hd : decide ((xs.length : Int) ≤ 8) = decide (xs.length ≤ 8) := by rw [decide_eq_decide]; omega
          have Hd := Lib.hid hd
          clear hv hd
          go_wp2
          go_ret
          exact ⟨by rw [Hv.out, ← Hd.out]; rfl, hb1⟩

theorem refMay_is (s : ByteArray) (b : Bool) (h : may s.data.toList = b) (w : World) :
    Calls Tryz.prog 28 #[.string s] w fun e w' => e = .returned (.bool b) ∧ Below w.heap.size w w' := by
  subst h; exact refMay_any s w

set_option maxHeartbeats 400000 in
theorem at_any (v : Value) (xs : List Bs) (i : Nat) (w : World) (h : StrAt w v xs) (hi : i ≤ 1000000) (hx : xs.length ≤ 1000000) :
    Calls Tryz.prog 73 #[v, .int .i64 i] w fun e w' => e = .returned (.string ⟨(nth xs i).toArray⟩) ∧ w = w' := by
  obtain ⟨ao, cap, rfl, hcell⟩ := h
  by_cases hlt : i < xs.length
  · obtain ⟨b, off, rfl, _, hc⟩ := hcell (by omega)
    have hck := hc i hlt
    have hlt' : (i : Int) < xs.length := by omega
    clear hc hcell
    go_enter Tryz.func73, Tryz.ntmps73
    go_wp2
    go_ret
    exact ⟨rfl, rfl⟩
  · have Hn := Lib.hid (nth_ge (xs := xs) (i := i) (by omega))
    have hlt' : ¬ (i : Int) < xs.length := by omega
    clear hcell
    go_enter Tryz.func73, Tryz.ntmps73
    go_wp2
    go_ret
    exact ⟨by rw [Hn.out]; rfl, rfl⟩

end Go.Proofs.YtdijkekglaimfaaGreatDoor.Ver
