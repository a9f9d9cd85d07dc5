/- Great, Atoms; appends of rows of rows. -/
import Derived.Test.YtiomocmceccmbaaCnOpen
namespace Go.Proofs.Ytiomocmceccmbaa.Cn
open Go.RowKit

def GreatPost (w : World) (ls : List (List Int)) (e : Ending) (w' : World) : Prop :=
  w = w' ∧ (e = .returned (.bool true) ∨ (e = .returned (.bool false) ∧ ls.length ≤ 3000 ∧ ∀ z ∈ ls, z.length ≤ 3000))

theorem great_any (w : World) (v : Value) (ls : List (List Int)) (hg : Grid w v ls) : Calls Try.prog 26 #[v] w (GreatPost w ls) := by
  have HG := Lib.hid hg
  obtain ⟨A, L, c, rfl, hL, h1, h2⟩ := hg.open'
  unfold maxLen at h2
  have HL := Lib.hid hL
  clear hg hL
  go_enter Try.func26, Try.ntmps26
  go_wp2
  go_loop [3, 7] (fun s i => ∃ k n : Nat, i = .int .i64 (k : Int) ∧ s = .int .i64 (n : Int) ∧ k ≤ L ∧ k ≤ n ∧ n ≤ 3000 ∧ ∀ j, j < k → (nthL ls j).length ≤ 3000) (fun _ i => L - (intOf i).toNat)
  case atStart => exact ⟨0, 0, rfl, rfl, by omega, by omega, by omega, fun j hj => by omega⟩
  case round =>
    obtain ⟨k, n, rfl, rfl, hk, hkn, hn, hall⟩ := hrel
    have HA := Lib.hid hall
    clear hall
    by_cases hkl : k < L
    · obtain ⟨b, off, A1, L1, c1, rfl, cc, r1⟩ := HG.out.at hkl
      have hl1 : L1 = (nthL ls k).length ∧ L1 ≤ 9223372036854775807 := by
        obtain ⟨A', L', c', e, e2, e3, e4, _⟩ := r1.open'
        injection e with _ e5 _
        unfold maxLen at e4
        exact ⟨by omega, by omega⟩
      obtain ⟨hl1, hl2⟩ := hl1
      have HL1 := Lib.hid hl1
      clear r1 hl1
      by_cases h9 : 3000 < n + 1 + min L1 9000
      · by_cases h10 : L1 < 9000
        all_goals
          go_wp2
          all_goals
            go_ret
            exact ⟨rfl, .inl rfl⟩
      · have h10 : L1 < 9000 := by omega
        have h11 : n + 1 + L1 ≤ 3000 := by omega
        clear h9
        go_wp2
        all_goals
          go_round
          case rel => exact ⟨k + 1, n + (1 + L1), by first | rfl | go_num, by first | rfl | go_num, by omega, by omega, by omega, fun j hj => by
            by_cases e : j = k
            · rw [e, ← HL1.out]; omega
            · exact HA.out j (by omega)⟩
          case measure => simp [intOf]; omega
    · have hkL : k = L := by omega
      subst hkL
      go_wp2
      go_ret
      refine ⟨rfl, .inr ⟨rfl, by rw [← HL.out]; omega, fun z hz => ?_⟩⟩
      obtain ⟨j, hj, e⟩ := List.getElem_of_mem hz
      have : nthL ls j = z := by unfold nthL; simp [List.getD_eq_getElem?_getD, hj, e]
      rw [← this]; exact HA.out j (by rw [HL.out]; exact hj)

/-- The greatest atom. -/
def litA (x : Int) : Nat := if litB x then x.natAbs else 0
def supZ (z : List Int) : Nat := (z.map litA).foldr max 0
def supL (ls : List (List Int)) : Nat := (ls.map supZ).foldr max 0
theorem foldr_max (l : List Nat) (m : Nat) : l.foldr max m = max (l.foldr max 0) m := by
  induction l with
  | nil => simp
  | cons a l ih => simp only [List.foldr_cons]; rw [ih, Nat.max_assoc]
theorem supZ_snoc (z : List Int) (x : Int) : supZ (z ++ [x]) = max (supZ z) (litA x) := by
  unfold supZ; simp only [List.map_append, List.foldr_append, List.map_cons, List.map_nil, List.foldr_cons, List.foldr_nil]
  rw [foldr_max]; simp
theorem supL_append (a b : List (List Int)) : supL (a ++ b) = max (supL a) (supL b) := by
  unfold supL; simp only [List.map_append, List.foldr_append]
  rw [foldr_max]
theorem supL_snoc (a : List (List Int)) (z : List Int) : supL (a ++ [z]) = max (supL a) (supZ z) := by
  rw [supL_append]; unfold supL; simp
theorem litA_le {x : Int} (h1 : -9223372036854775808 ≤ x) (h2 : x ≤ 9223372036854775807) : litA x ≤ 9223372036854775807 := by
  unfold litA
  split
  · rename_i h
    have hl : IsLit x := by simpa [litB] using h
    have := hl.2
    omega
  · omega
theorem supZ_le {z : List Int} (h : ∀ x ∈ z, -9223372036854775808 ≤ x ∧ x ≤ 9223372036854775807) : supZ z ≤ 9223372036854775807 := by
  induction z with
  | nil => simp [supZ]
  | cons a l ih =>
    have h1 := litA_le (h a (by simp)).1 (h a (by simp)).2
    have h2 := ih fun x hx => h x (by simp [hx])
    unfold supZ at *
    simp only [List.map_cons, List.foldr_cons]
    omega

set_option maxHeartbeats 1600000 in
theorem atoms_any (w : World) (v : Value) (ls : List (List Int)) (hg : Grid w v ls) : Calls Try.prog 27 #[v] w fun e w' => e = .returned (.int .i64 (supL ls : Nat)) ∧ w = w' := by
  obtain ⟨r, hr⟩ : ∃ r, supL ls = r := ⟨_, rfl⟩
  rw [hr]
  have HR := Lib.hid hr
  have HG := Lib.hid hg
  obtain ⟨A, L, c, rfl, hL, h1, h2⟩ := hg.open'
  unfold maxLen at h2
  have HL := Lib.hid hL
  clear hr hg hL
  go_enter Try.func27, Try.ntmps27
  go_wp2
  go_loop [3, 10] (fun s i => ∃ k n : Nat, i = .int .i64 (k : Int) ∧ s = .int .i64 (n : Int) ∧ k ≤ L ∧ n ≤ 9223372036854775807 ∧ n = supL (ls.take k)) (fun _ i => L - (intOf i).toNat)
  case atStart => exact ⟨0, 0, rfl, rfl, by omega, by omega, by simp [supL]⟩
  case round =>
    obtain ⟨k, n, rfl, rfl, hk, hn, hs⟩ := hrel
    have HS := Lib.hid hs
    clear hs
    by_cases hkl : k < L
    · obtain ⟨b, off, A1, L1, c1, rfl, cc, r1⟩ := HG.out.at hkl
      have HR1 := Lib.hid r1
      have hl1 : L1 = (nthL ls k).length ∧ L1 ≤ 9223372036854775807 := by
        obtain ⟨A', L', c', e, e2, e3, e4, _⟩ := r1.open'
        injection e with _ e5 _
        unfold maxLen at e4
        exact ⟨by omega, by omega⟩
      obtain ⟨hl1, hl2⟩ := hl1
      have HL1 := Lib.hid hl1
      clear r1 hl1
      go_wp2
      go_loop [3, 16] (fun s i => ∃ j m : Nat, i = .int .i64 (j : Int) ∧ s = .int .i64 (m : Int) ∧ j ≤ L1 ∧ m ≤ 9223372036854775807 ∧ m = max (supL (ls.take k)) (supZ ((nthL ls k).take j))) (fun _ i => L1 - (intOf i).toNat)
      case atStart => exact ⟨0, n, rfl, rfl, by omega, hn, by rw [← HS.out]; simp [supZ]⟩
      case round =>
        obtain ⟨j, m, rfl, rfl, hj, hm, hs⟩ := hrel
        have HS2 := Lib.hid hs
        clear hs
        by_cases hjl : j < L1
        · obtain ⟨b1, o1, rfl, hcell⟩ := HR1.out.at (by omega)
          obtain ⟨x, hx⟩ : ∃ x, nthI (nthL ls k) j = x := ⟨_, rfl⟩
          have cx := hcell j hjl
          rw [hx] at cx
          have hbx := HR1.out.bounds x (by rw [← hx]; exact nthI_mem (by rw [← HL1.out]; exact hjl))
          obtain ⟨bx1, bx2⟩ := hbx
          have hnext : max (supL (ls.take k)) (supZ ((nthL ls k).take (j + 1))) = max m (litA x) := by
            rw [take_snocI (by rw [← HL1.out]; exact hjl), supZ_snoc, ← Nat.max_assoc, ← HS2.out, hx]
          have HN := Lib.hid hnext
          obtain ⟨s, hs⟩ : ∃ s, litB x = s := ⟨_, rfl⟩
          have HB := Lib.hid hs
          clear hnext hx hcell hs
          cases s with
          | false =>
            have hz : litA x = 0 := by unfold litA; rw [HB.out]; rfl
            have HZ := Lib.hid hz
            clear hz
            go_wp2_with fail
            refine (isLiteral_any x w).mono ?_
            rintro e w' ⟨rfl, rfl⟩
            rw [HB.out]
            go_wp2
            go_round
            case rel => exact ⟨j + 1, m, by first | rfl | go_num, rfl, by omega, hm, by rw [HN.out, HZ.out]; simp⟩
            case measure => simp [intOf]; omega
          | true =>
            have hlit : IsLit x := by simpa [litB] using HB.out
            have bx3 : -9223372036854775807 ≤ x := by have := hlit.2; omega
            have hz : litA x = x.natAbs := by unfold litA; rw [HB.out]; rfl
            obtain ⟨y, hy⟩ : ∃ y, x.natAbs = y := ⟨_, rfl⟩
            rw [hy] at hz
            have HZ := Lib.hid hz
            have HY := Lib.hid hy
            have hyb : y ≤ 9223372036854775807 := by omega
            clear hz hy hlit
            go_wp2_with fail
            refine (isLiteral_any x w).mono ?_
            rintro e w' ⟨rfl, rfl⟩
            rw [HB.out]
            go_wp2_with fail
            refine (atomOf_any x bx3 bx2 w).mono ?_
            rintro e w' ⟨rfl, rfl⟩
            rw [HY.out]
            by_cases hmy : m < y
            · go_wp2
              all_goals
                go_round
                case rel => exact ⟨j + 1, y, by first | rfl | go_num, by first | rfl | (congr 1; omega), by omega, hyb, by rw [HN.out, HZ.out]; omega⟩
                case measure => simp [intOf]; omega
            · go_wp2
              all_goals
                go_round
                case rel => exact ⟨j + 1, m, by first | rfl | go_num, by first | rfl | (congr 1; omega), by omega, hm, by rw [HN.out, HZ.out]; omega⟩
                case measure => simp [intOf]; omega
        · have hjL : j = L1 := by omega
          subst hjL
          have hfin : m = supL (ls.take (k + 1)) := by
            rw [take_snocL (by rw [← HL.out]; exact hkl), supL_snoc, HS2.out, HL1.out, List.take_length]
          have HF := Lib.hid hfin
          clear hfin
          go_wp2
          go_round
          case rel => exact ⟨k + 1, m, by first | rfl | go_num, rfl, by omega, hm, HF.out⟩
          case measure => simp [intOf]; omega
    · have hkL : k = L := by omega
      subst hkL
      have hnr : n = r := by rw [← HR.out]; have := HS.out; rw [HL.out, List.take_length] at this; exact this
      subst hnr
      go_wp2
      go_ret
      exact ⟨rfl, rfl⟩

end Go.Proofs.Ytiomocmceccmbaa.Cn
