/- The document's Find, Has, Providers, Virtual; Providers. -/
import Derived.Test.YtggejmojbebhfaaRcFind
namespace Go.Proofs.Ytggejmojbebhfaa.Rc
open Go.RowKit

theorem rec_lens {w : World} {A1 A2 : Option Addr} {L1 c1 L2 c2 : Nat} {x : Rec} (h : IsRec w (.slice A1 L1 c1) (.slice A2 L2 c2) x) : L1 = x.pkgs.length ∧ L2 = x.prefs.length := ⟨h.pkgs.len, h.prefs.len⟩

set_option maxRecDepth 100000 in
set_option maxHeartbeats 800000 in
theorem refHas_any (w : World) (v : Value) (l : List ByteArray) (s : ByteArray) (h : RowD strK w v l) :
    Calls Try.prog 43 #[v, .string s] w fun e w' => e = .returned (.bool (hasS l s)) ∧ w = w' := by
  obtain ⟨A, L, c, rfl, hL, h1, h2⟩ := h.open'
  unfold maxLen at h2
  have H := Lib.hid h
  have HL := Lib.hid hL
  clear h hL
  go_enter Try.func43, Try.ntmps43
  go_wp2
  go_loop [8] (fun i => ∃ k : Nat, k ≤ L ∧ i = .int .i64 k ∧ Hid ((l.take k).any (eqS s) = false)) (fun i => L - (intOf i).toNat)
  case atStart => exact ⟨0, Nat.zero_le _, rfl, Lib.hid (by simp)⟩
  case round =>
    obtain ⟨k, hk, rfl, hall⟩ := hrel
    by_cases hlt : k < L
    · obtain ⟨b, off, rfl, hb, hs, hc⟩ := str_at H.out hlt
      have hkl : k < l.length := by rw [← HL.out]; exact hlt
      have HS := Lib.hid (any_snoc hkl (eqS s))
      cases he : eqS s (nth l k) with
      | true =>
        have Hv := Lib.hid (show hasS l s = true from any_at hkl he)
        have e1 : ((nth l k).toList == s.toList) = true := (Va.eqS_comm _ _).trans he
        clear he hkl
        go_wp2
        go_ret
        exact ⟨ret_bool Hv.out.symm, rfl⟩
      | false =>
        have hn : Hid ((l.take (k + 1)).any (eqS s) = false) := Lib.hid (by rw [HS.out, hall.out, he]; rfl)
        have e1 : ((nth l k).toList == s.toList) = false := (Va.eqS_comm _ _).trans he
        clear he hkl
        go_wp2
        go_round
        case rel => exact ⟨k + 1, by omega, by go_num, hn⟩
        case measure => simp [intOf]; omega
    · obtain rfl : k = L := by omega
      have Hv := Lib.hid (show hasS l s = false by
        have := hall.out
        rwa [HL.out, List.take_length] at this)
      go_wp2
      go_ret
      exact ⟨ret_bool Hv.out.symm, rfl⟩
theorem refHas_is (w : World) (v : Value) (l : List ByteArray) (s : ByteArray) (h : RowD strK w v l) (b : Bool) (hb : hasS l s = b) :
    Calls Try.prog 43 #[v, .string s] w fun e w' => e = .returned (.bool b) ∧ w = w' := by subst hb; exact refHas_any w v l s h

set_option maxRecDepth 100000 in
set_option maxHeartbeats 800000 in
theorem refFind_any (w : World) (v1 v2 : Value) (x : Rec) (s : ByteArray) (h : IsRec w v1 v2 x) :
    Calls Try.prog 16 #[.agg #[v1, v2], .string s] w fun e w' => e = .returned (.int .i64 (findR x s)) ∧ Below w.heap.size w w' := by
  have HI := Lib.hid (InBox.new h)
  obtain ⟨A1, L1, c1, A2, L2, c2, rfl, rfl, hL1, hL2, hc1, hm1, hc2, hm2⟩ := rec_box h
  have HL := Lib.hid hL1
  clear hL1 hL2 h
  go_enter Try.func16, Try.ntmps16
  go_wp2
  go_loop [9] (fun i => ∃ k : Nat, k ≤ L1 ∧ i = .int .i64 k ∧ Hid ((x.pkgs.take k).any (fun p => nameIs p s) = false)) (fun i => L1 - (intOf i).toNat)
  case atStart => exact ⟨0, Nat.zero_le _, rfl, Lib.hid (by simp)⟩
  case round =>
    obtain ⟨k, hk, rfl, hall⟩ := hrel
    by_cases hlt : k < L1
    · obtain ⟨b, off, v1, v2, v3, v4, v5, v6, rfl, hb, hp, d0, d1, d2, d3, d4, d5, d6, d7⟩ := pkg_at HI.out.isr.pkgs hlt
      have hkl : k < x.pkgs.length := by rw [← HL.out]; exact hlt
      have HS := Lib.hid (any_snoc hkl (fun p => nameIs p s))
      clear hp d1 d2 d3 d4 d5 d6 d7
      cases he : nameIs (nth x.pkgs k) s with
      | true =>
        have Hv := Lib.hid (show findR x s = k from idx_hit hkl hall.out (p := fun p => nameIs p s) he)
        have e1 : ((nth x.pkgs k).name.toList == s.toList) = true := he
        clear he hkl
        go_wp2
        go_ret
        exact ⟨ret_int Hv.out.symm, HI.out.bel⟩
      | false =>
        have hn : Hid ((x.pkgs.take (k + 1)).any (fun p => nameIs p s) = false) := Lib.hid (by rw [HS.out, hall.out]; simpa using he)
        have e1 : ((nth x.pkgs k).name.toList == s.toList) = false := he
        clear he hkl
        go_wp2
        go_round
        case rel => exact ⟨k + 1, by omega, by go_num, hn⟩
        case measure => simp [intOf]; omega
    · obtain rfl : k = L1 := by omega
      have Hv := Lib.hid (show findR x s = -1 from idx_miss (by
        have := hall.out
        rwa [HL.out, List.take_length] at this))
      go_wp2
      go_ret
      exact ⟨ret_int Hv.out.symm, HI.out.bel⟩
theorem refFind_is (w : World) (v1 v2 : Value) (x : Rec) (s : ByteArray) (h : IsRec w v1 v2 x) (n : Int) (hn : findR x s = n) :
    Calls Try.prog 16 #[.agg #[v1, v2], .string s] w fun e w' => e = .returned (.int .i64 n) ∧ Below w.heap.size w w' := by subst hn; exact refFind_any w v1 v2 x s h
end Go.Proofs.Ytggejmojbebhfaa.Rc
