/- What the document's guard says of a recipe. -/
import Derived.Test.YtggejmojbebhfaaRcGreat2
import Derived.Test.YtggejmojbebhfaaRcFind2
namespace Go.Proofs.Ytggejmojbebhfaa.Rc
open Go.RowKit

structure RecSmall (x : Rec) : Prop where
  pkgs : x.pkgs.length ≤ 30
  prefs : x.prefs.length ≤ 20
  each : ∀ p ∈ x.pkgs, PkgSmall p

theorem all_to {α : Type} [Inhabited α] {l : List α} {Q : α → Prop} (h : ∀ j, j < l.length → Q (nth l j)) : ∀ p ∈ l, Q p := by
  intro p hp
  obtain ⟨i, hi, rfl⟩ := List.mem_iff_getElem.1 hp
  rw [← nth_lt hi]; exact h i hi

set_option maxHeartbeats 3200000 in
set_option maxRecDepth 100000 in
theorem great07_any (w : World) (v1 v2 : Value) (x : Rec) (h : IsRec w v1 v2 x) :
    Calls Try.prog 9 #[.agg #[v1, v2]] w (SomeG (fun b => b = false → RecSmall x) w) := by
  have HI := Lib.hid (InBox.new h)
  obtain ⟨A1, L1, c1, A2, L2, c2, rfl, rfl, hL1, hL2, hc1, hm1, hc2, hm2⟩ := rec_box h
  have HL1 := Lib.hid hL1
  have HL2 := Lib.hid hL2
  clear hL1 hL2 h
  by_cases hbig : 30 < L1 ∨ 20 < L2
  · go_enter Try.func9, Try.ntmps9
    go_wp2_with fail
    all_goals first
      | (go_ret; exact ⟨true, rfl, by simp, HI.out.bel⟩)
      | (exfalso; omega)
  · have e0 : ¬ (30 : Int) < (L1 : Int) := by omega
    have e1 : ¬ (20 : Int) < (L2 : Int) := by omega
    have HSM := Lib.hid (show x.pkgs.length ≤ 30 ∧ x.prefs.length ≤ 20 by rw [← HL1.out, ← HL2.out]; omega)
    clear hbig
    go_enter Try.func9, Try.ntmps9
    go_wp2
    go_loopw [18] (fun i wr => ∃ k : Nat, k ≤ L1 ∧ i = .int .i64 k ∧ Hid (∀ j, j < k → PkgSmall (nth x.pkgs j)) ∧ InBox w wr (.slice A1 L1 c1) (.slice A2 L2 c2) w.heap.size x) (fun i _ => L1 - (intOf i).toNat)
    case atStart => exact ⟨0, Nat.zero_le _, rfl, Lib.hid (fun j hj => by omega), HI.out⟩
    case round =>
      clear HI
      obtain ⟨k, hk, rfl, hall, hi⟩ := hrel
      have HI := Lib.hid hi
      have x0 := hi.c0
      have x1 := hi.c1
      by_cases hlt : k < L1
      · obtain ⟨b, off, v1, v2, v3, v4, v5, v6, rfl, hb, hp, d0, d1, d2, d3, d4, d5, d6, d7⟩ := pkg_at hi.isr.pkgs hlt
        have HP := Lib.hid hp
        clear hp hi
        go_wp2_with fail
        refine (greatPackage_any _ _ _ _ _ _ _ _ HP.out).mono ?_
        rintro e w2 ⟨b3, rfl, hb3, hb2⟩
        have HI2 := Lib.hid (HI.out.step hb2)
        clear hb2
        cases b3 with
        | true =>
          clear hb3
          go_wp2
          go_ret
          exact ⟨true, rfl, by simp, HI2.out.bel⟩
        | false =>
          have hn : Hid (∀ j, j < k + 1 → PkgSmall (nth x.pkgs j)) := Lib.hid (fun j hj => by
            by_cases e : j = k
            · rw [e]; exact hb3 rfl
            · exact hall.out j (by omega))
          clear hb3
          go_wp2
          go_roundw
          case rel => exact ⟨k + 1, by omega, by go_num, hn, HI2.out⟩
          case measure => simp [intOf]; omega
      · obtain rfl : k = L1 := by omega
        have HALL := Lib.hid (show ∀ p ∈ x.pkgs, PkgSmall p from all_to (fun j hj => hall.out j (by rw [HL1.out]; exact hj)))
        clear hi
        go_wp2
        go_loop [31] (fun i => ∃ k : Nat, k ≤ L2 ∧ i = .int .i64 k) (fun i => L2 - (intOf i).toNat)
        case atStart => exact ⟨0, Nat.zero_le _, rfl⟩
        case round =>
          obtain ⟨k2, hk2, rfl⟩ := hrel
          by_cases hlt2 : k2 < L2
          · obtain ⟨b, off, v1, rfl, hb, hs, hr, hw, d0, d1, d2⟩ := pref_at HI.out.isr.prefs hlt2
            have HR := Lib.hid hr
            obtain ⟨Ar, Lr, cr, rfl⟩ := hr.sl
            clear hr hw
            by_cases hn : 100 < (nth x.prefs k2).virt.size
            · have n0 : (100 : Int) < ((nth x.prefs k2).virt.size : Int) := by omega
              go_wp2
              go_ret
              exact ⟨true, rfl, by simp, HI.out.bel⟩
            · have n0 : ¬ (100 : Int) < ((nth x.prefs k2).virt.size : Int) := by omega
              go_wp2_with fail
              refine (greatTexts_any _ _ _ HR.out).mono ?_
              rintro e w' ⟨b3, rfl, hb3, rfl⟩
              clear hb3
              cases b3 with
              | true =>
                go_wp2
                go_ret
                exact ⟨true, rfl, by simp, HI.out.bel⟩
              | false =>
                go_wp2
                go_round
                case rel => exact ⟨k2 + 1, by omega, by go_num⟩
                case measure => simp [intOf]; omega
          · go_wp2
            go_ret
            exact ⟨false, rfl, fun _ => ⟨HSM.out.1, HSM.out.2, HALL.out⟩, HI.out.bel⟩
end Go.Proofs.Ytggejmojbebhfaa.Rc
