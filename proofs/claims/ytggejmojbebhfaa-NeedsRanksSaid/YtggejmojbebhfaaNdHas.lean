/- Is a number in a row? Are two rows the same? -/
import Derived.Test.YtggejmojbebhfaaNdFixed
import Derived.Test.YtggejmojbebhfaaRcOwnK
namespace Go.Proofs.Ytggejmojbebhfaa.Rc
open Go.RowKit

set_option maxRecDepth 100000 in
theorem has10_is (w : World) (v : Value) (l : List Int) (n : Int) (h : RowD intK w v l) (b : Bool) (hb : decide (n ∈ l) = b) :
    Calls Try.prog 31 #[v, .int .i64 n] w fun e w' => e = .returned (.bool b) ∧ w = w' := by
  obtain ⟨A, L, c, rfl⟩ := h.sl
  have H := Lib.hid h
  have HL := Lib.hid h.len
  have hc := h.cap
  have HB := Lib.hid hb
  clear h hb
  go_enter Try.func31, Try.ntmps31
  go_wp2
  go_loop [8] (fun i => ∃ k : Nat, k ≤ L ∧ i = .int .i64 k ∧ Hid (n ∉ l.take k)) (fun i => L - (RowKit.intOf i).toNat)
  case atStart => exact ⟨0, Nat.zero_le _, rfl, Lib.hid (by simp)⟩
  case round =>
    obtain ⟨k, hk, rfl, HN⟩ := hrel
    by_cases hlt : k < L
    · have hkl : k < l.length := by rw [← HL.out]; exact hlt
      obtain ⟨b', off, rfl, hb', _, c0⟩ := int_at H.out hlt
      obtain ⟨m, hm⟩ : ∃ m, nth l k = m := ⟨_, rfl⟩
      rw [hm] at c0
      have HM := Lib.hid hm
      have HKL := Lib.hid hkl
      clear hm hkl
      by_cases he : m = n
      · subst he
        have HV := Lib.hid (show b = true by rw [← HB.out, ← HM.out]; simpa using nth_mem HKL.out)
        go_wp2
        go_ret
        exact ⟨ret_bool HV.out.symm, rfl⟩
      · have e1 : (m == n) = false := by simpa using he
        have HNN := Lib.hid (show n ∉ l.take (k + 1) by
          rw [take_snoc HKL.out, List.mem_append, HM.out]
          have h0 := HN.out
          have h1 : ¬ n = m := fun e => he e.symm
          simp [h0, h1])
        go_wp2
        go_round
        case rel => exact ⟨k + 1, by omega, by go_num, HNN⟩
        case measure => simp [RowKit.intOf]; omega
    · obtain rfl : k = L := by omega
      have HV := Lib.hid (show b = false by
        rw [← HB.out]
        have h0 := HN.out
        rw [HL.out, List.take_length] at h0
        simpa using h0)
      go_wp2
      go_ret
      exact ⟨ret_bool HV.out.symm, rfl⟩
theorem close_le {x : Rec} {q p : List Root} (h : ∀ t, Reach x q t → Reach x p t) : (closeL x q).length ≤ (closeL x p).length :=
  List.Nodup.length_le_of_subset ((closeL_sorted x q).imp fun {a b} h => by omega) fun t ht => closeL_mem.2 (h t (closeL_mem.1 ht))
theorem close_both (x : Rec) (q p : List Root) (t : Int) : decide (t ∈ closeL x (q ++ p)) = (decide (t ∈ closeL x q) || decide (t ∈ closeL x p)) := by
  rw [Bool.eq_iff_iff, Bool.or_eq_true, decide_eq_true_iff, decide_eq_true_iff, decide_eq_true_iff, closeL_mem, closeL_mem, closeL_mem]
  exact Reach.both
theorem close_wf {x : Rec} (q : List Root) (hl : x.pkgs.length ≤ 1000) : ∀ y ∈ closeL x q, intK.is default [encI y] y := by
  intro y hy
  have := (closeL_mem.1 hy).range
  exact ⟨rfl, wf_small this.1 (by omega)⟩
theorem rowI {w : World} {base : Nat} {v : Value} {x : Rec} {q : List Root} (h : OwnI w base v (closeL x q)) (hl : x.pkgs.length ≤ 1000) : RowD intK w v (closeL x q) := h.row rfl fun y hy => close_wf q hl y hy
theorem elemRoot : Elem rootK 35 75 :=
  ⟨Try.underlying35, ⟨.agg #[.string ⟨#[]⟩, .slice none 0 0, .slice none 0 0, .int .i64 0], 72, by kernel_rfl, by rfl, by decide, by decide⟩, by decide, by
    rintro w cs x ⟨v1, v2, rfl, h, _⟩ u hu
    obtain ⟨_, _, _, rfl⟩ := h.spans.sl
    obtain ⟨_, _, _, rfl⟩ := h.sets.sl
    simp at hu
    rcases hu with rfl | rfl | rfl | rfl <;> rfl⟩
end Go.Proofs.Ytggejmojbebhfaa.Rc
