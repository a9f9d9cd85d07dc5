/- slices.Concat of rows of numbers. -/
import Derived.Test.YtiomocmceccmbaaCnNg
import Derived.Lib.AppendZeros
import Derived.Lib.AppendZerosOnto
namespace Go.Proofs.Ytiomocmceccmbaa.Cn
open Go.RowKit

set_option maxRecDepth 100000 in
set_option maxHeartbeats 1000000 in
theorem grow_nil (w : World) (n : Nat) (hn : n ≤ 100000) :
    Calls Try.prog 48 #[.slice none 0 0, .int .i64 n] w fun e w' => ∃ A L c, e = .returned (.slice A L c) ∧ Own w' w.heap.size (.slice A L c) [] ∧ Below w.heap.size w w' := by
  by_cases h0 : n = 0
  · subst h0
    go_enter Try.func48, Try.ntmps48
    go_wp2
    go_ret
    exact ⟨_, _, _, rfl, own_nil _ _, Below.refl _ _⟩
  · obtain ⟨i0, hi0, hz0, hz1, hz2⟩ := info_parts int_info
    have hrz : ∀ ty, (Builtin.append_ #[22, 3] ty #[.slice none 0 0, .int .i64 (n : Int)]).run Try.prog w =
      .ok (.slice (some ⟨w.heap.size, 0, none⟩) n (grownCap w n 0 3)) (w.drew.alloc (.cells (Builtin.zeroCells (Value.int .i64 0).cells n ++ Builtin.zeroCells (Value.int .i64 0).cells (grownCap w n 0 3 - n)) 3)) := fun ty =>
      Lib.run_append_nil_zeros w 22 3 ty 3 i0 _ .i64 .i64 Try.underlying22 Try.underlying3 hi0 hz0 n (by omega) (by rw [hz1]; omega) (by omega) (by rw [hz2]; omega)
    have hGn : n ≤ grownCap w n 0 3 := grownCap_ge w _ _ _
    have hG63 := grownCap_le_maxLen w n 0 3 (by unfold maxLen; omega)
    obtain ⟨G, hG⟩ : ∃ G, G = grownCap w n 0 3 := ⟨_, rfl⟩
    obtain ⟨cur, hcur⟩ : ∃ cur, cur = Builtin.zeroCells (Value.int .i64 0).cells n ++ Builtin.zeroCells (Value.int .i64 0).cells (grownCap w n 0 3 - n) := ⟨_, rfl⟩
    have hsz : cur.size = G * 1 := by rw [hcur, hG]; simp [size_zeroCells, Value.cells]; omega
    rw [← hcur, ← hG] at hrz
    rw [← hG] at hGn hG63
    have HOW := Lib.hid (World.ownsRow_made (base := w.heap.size) (e := 3) w.drew cur G (Nat.le_refl _) hG63 hsz)
    have hgz : (0 : Int) < (n : Int) := by omega
    unfold maxLen at hG63
    clear hG hcur hsz hi0 hz0 hz1 hz2
    go_enter Try.func48, Try.ntmps48
    go_wp2_with (at_builtin; refine Lib.wpList_append_run _ rfl _ _ _ _ rfl _ _ rfl rfl _ _ (hrz _) ?_)
    all_goals (go_ret; exact ⟨_, _, _, rfl, HOW.out, ((Below.refl w.heap.size w).drew).alloc (Nat.le_refl _) _⟩)

theorem flat_take {ls : List (List Int)} {k : Nat} (hk : k < ls.length) : (ls.take (k + 1)).flatten = (ls.take k).flatten ++ nthL ls k := by
  rw [take_snocL hk]; simp
theorem flat_le {ls : List (List Int)} {k : Nat} : (ls.take k).flatten.length ≤ ls.flatten.length := by
  conv => rhs; rw [← List.take_append_drop k ls]
  simp only [List.flatten_append, List.length_append]; omega

set_option maxRecDepth 100000 in
set_option maxHeartbeats 1000000 in
theorem concat_any (w : World) (v : Value) (ls : List (List Int)) (hg : Grid w v ls) (hl : ls.flatten.length ≤ 100000) :
    Calls Try.prog 41 #[v] w fun e w' => ∃ A L c, e = .returned (.slice A L c) ∧ Own w' w.heap.size (.slice A L c) ls.flatten ∧ Below w.heap.size w w' := by
  have HG := Lib.hid hg
  have HF := Lib.hid hl
  obtain ⟨A, L, c, rfl, hL, h1, h2⟩ := hg.open'
  unfold maxLen at h2
  have HL := Lib.hid hL
  clear hg hL hl
  go_enter Try.func41, Try.ntmps41
  go_wp2
  go_loop [11, 3] (fun i s => ∃ k m : Nat, i = .int .i64 (k : Int) ∧ s = .int .i64 (m : Int) ∧ k ≤ L ∧ m = (ls.take k).flatten.length) (fun i _ => L - (intOf i).toNat)
  case atStart => exact ⟨0, 0, rfl, rfl, by omega, by simp⟩
  case round =>
    obtain ⟨k, m, rfl, rfl, hk, hm⟩ := hrel
    have HM := Lib.hid hm
    have hmb : m ≤ 100000 := by have h1 := flat_le (ls := ls) (k := k); have h2 := HF.out; omega
    clear hm
    by_cases hkl : k < L
    · obtain ⟨b, off, A1, L1, c1, rfl, cc, r1⟩ := HG.out.at hkl
      have hl1 : L1 = (nthL ls k).length := by
        obtain ⟨A', L', c', e, e2, _⟩ := r1.open'
        injection e with _ e5 _
        omega
      have hnx : m + L1 = (ls.take (k + 1)).flatten.length := by rw [flat_take (by rw [← HL.out]; exact hkl), List.length_append, ← HM.out, hl1]
      have hnb : m + L1 ≤ 100000 := by have h1 := flat_le (ls := ls) (k := k + 1); have h2 := HF.out; omega
      have HNX := Lib.hid hnx
      have g1 : ¬ ((m : Int) + (L1 : Int) < 0) := by omega
      clear hl1 hnx r1
      go_wp2
      go_round
      case rel => exact ⟨k + 1, m + L1, by first | rfl | go_num, by first | rfl | go_num, by omega, HNX.out⟩
      case measure => simp [intOf]; omega
    · have hkL : k = L := by omega
      subst hkL
      go_wp2_with fail
      refine (grow_nil w m hmb).mono ?_
      rintro e w1 ⟨A1, L1, c1, rfl, hown, hb⟩
      have HO := Lib.hid hown
      have HB := Lib.hid hb
      clear hown hb
      go_wp2
      go_loopw [27, 6] (fun i t wr => ∃ (j : Nat) (T : Option Addr) (n tc : Nat), i = .int .i64 (j : Int) ∧ t = .slice T n tc ∧ j ≤ k ∧ Own wr w.heap.size (.slice T n tc) (ls.take j).flatten ∧ Below w.heap.size w wr) (fun i _ _ => k - (intOf i).toNat)
      case atStart => exact ⟨0, _, _, _, rfl, rfl, by omega, by simpa using HO.out, HB.out⟩
      case round =>
        clear HO HB
        obtain ⟨j, T, n, tc, rfl, rfl, hj, hown, hb⟩ := hrel
        have HO := Lib.hid hown
        have HB := Lib.hid hb
        clear hown hb
        by_cases hjl : j < k
        · obtain ⟨b, off, A1, L1, c1, rfl, cc, r1⟩ := (HG.out.below HB.out).at hjl
          have hjl' : j < ls.length := by rw [← HL.out]; exact hjl
          have hln : (ls.take j).flatten.length + (nthL ls j).length ≤ 200000 := by
            have h1 := flat_le (ls := ls) (k := j + 1)
            rw [flat_take hjl', List.length_append] at h1
            have := HF.out; omega
          have HR := Lib.hid r1
          have HLN := Lib.hid hln
          have HFT := Lib.hid (flat_take hjl')
          clear r1 hln hjl'
          go_wp2_with (at_builtin; refine wpList_append_row rfl (.tmp 31) (.tmp 32) rfl rfl (v := .slice T n tc) (x := .slice A1 L1 c1) (xs := (ls.take j).flatten) (zs := nthL ls j) rfl rfl HO.out HR.out HLN.out HB.out.size ?_; intro T4 n4 c4 w4 hown4 hgrow4 hat4; have HO4 := Lib.hid hown4; have HB4 := Lib.hid (Touch.belows HB.out (Touch.of_grown (S := fun b => (Value.slice T n tc).ownBlock = some b) hgrow4 (fun _ h => h)) (Nat.le_refl _) (fun b hb => (HO.out.least b hb).1)); clear hown4 hgrow4 hat4)
          go_roundw
          case rel => exact ⟨j + 1, T4, n4, c4, by first | rfl | go_num, rfl, by omega, by rw [HFT.out]; exact HO4.out, HB4.out⟩
          case measure => simp [intOf]; omega
        · have hjk : j = k := by omega
          subst hjk
          go_wp2
          go_ret
          have hO := HO.out
          rw [HL.out, List.take_length] at hO
          exact ⟨_, _, _, rfl, hO, HB.out⟩

end Go.Proofs.Ytiomocmceccmbaa.Cn
