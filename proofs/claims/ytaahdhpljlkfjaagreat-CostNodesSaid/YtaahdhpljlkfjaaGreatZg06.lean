/- The walks of slices.Contains over texts, of mayOne and of May. -/
import Derived.Test.YtaahdhpljlkfjaaGreatZg04
import Derived.Test.YtaahdhpljlkfjaaGreatZg05
namespace Go.Proofs.YtaahdhpljlkfjaaGreat.Va
open Go.RowKit

theorem bcell {B : Nat} {W w1 : World} (hb : Below B W w1) : (∀ b o, b < B → w1.cell? ⟨b, o, none⟩ = W.cell? ⟨b, o, none⟩) ∧ (∀ b o, b < B → w1.frozen? ⟨b, o, none⟩ = W.frozen? ⟨b, o, none⟩) :=
  ⟨fun b o h => hb.cell (p := ⟨b, o, none⟩) h, fun b o h => hb.frozen (p := ⟨b, o, none⟩) h⟩

set_option maxHeartbeats 800000 in
theorem index_any (w : World) (v : Value) (l : List ByteArray) (x : ByteArray) (h : Strs w v l) :
    Calls Tryz.prog 79 #[v, .string x] w fun e w' => (∃ n : Int, e = .returned (.int .i64 n) ∧ decide (0 ≤ n) = hasS l x) ∧ w = w' := by
  obtain ⟨A, L, c, rfl, hL, h1, h2, h3⟩ := h.open'
  unfold maxLen at h2
  have HL := Lib.hid hL
  have H3 := Lib.hid h3
  clear h hL h3
  go_enter Tryz.func79, Tryz.ntmps79
  go_wp2
  go_loop [8] (fun i => ∃ k : Nat, k ≤ L ∧ i = .int .i64 k ∧ Hid ((l.take k).any (eqS x) = false)) (fun i => L - (RowKit.intOf i).toNat)
  case atStart => exact ⟨0, Nat.zero_le _, rfl, Lib.hid (by simp)⟩
  case round =>
    obtain ⟨k, hk, rfl, hall⟩ := hrel
    by_cases hlt : k < L
    · obtain ⟨b, off, rfl, hb, hc⟩ := H3.out (by omega)
      have hck := (hc k hlt).1
      have hkl : k < l.length := by rw [← HL.out]; exact hlt
      have hs := any_snocS hkl (eqS x)
      clear hc
      cases he : eqS x (nthS l k) with
      | true =>
        have Hv := Lib.hid (show hasS l x = true from any_atS hkl he)
        have he2 : (x.toList == (nthS l k).toList) = true := he
        have HS := Lib.hid hs
        clear he hs hkl
        go_wp2
        go_ret
        exact ⟨⟨k, rfl, by rw [Hv.out]; simp⟩, rfl⟩
      | false =>
        have hn : Hid ((l.take (k + 1)).any (eqS x) = false) := Lib.hid (by rw [hs, hall.out, he]; rfl)
        have he2 : (x.toList == (nthS l k).toList) = false := he
        clear he hs hkl
        go_wp2
        go_round
        case rel => exact ⟨k + 1, by omega, by go_num, hn⟩
        case measure => simp [RowKit.intOf]; omega
    · obtain rfl : k = L := by omega
      have Hv := Lib.hid (show hasS l x = false by
        have := hall.out
        rw [HL.out, List.take_length] at this
        exact this)
      go_wp2
      go_ret
      exact ⟨⟨-1, rfl, by rw [Hv.out]; rfl⟩, rfl⟩

theorem contains_any (w : World) (v : Value) (l : List ByteArray) (x : ByteArray) (h : Strs w v l) :
    Calls Tryz.prog 52 #[v, .string x] w fun e w' => e = .returned (.bool (hasS l x)) ∧ w = w' := by
  go_enter Tryz.func52, Tryz.ntmps52
  go_wp2_with fail
  refine (index_any w v l x h).mono ?_
  rintro e w' ⟨⟨n, rfl, hn⟩, rfl⟩
  have HN := Lib.hid hn
  clear hn
  go_wp2
  go_ret
  exact ⟨by rw [← HN.out]; rfl, rfl⟩

theorem contains_is (w : World) (v : Value) (l : List ByteArray) (x : ByteArray) (h : Strs w v l) (b : Bool) (hb : hasS l x = b) :
    Calls Tryz.prog 52 #[v, .string x] w fun e w' => e = .returned (.bool b) ∧ w = w' := by subst hb; exact contains_any w v l x h

end Go.Proofs.YtaahdhpljlkfjaaGreat.Va

/- The walk of May. -/
namespace Go.Proofs.YtaahdhpljlkfjaaGreat.Va
open Go.RowKit

def mayP (l : List Var) (i : Nat) : Bool := mayOneB (nthV l i) && !hasN (l.take i) (nthV l i).1

end Go.Proofs.YtaahdhpljlkfjaaGreat.Va
