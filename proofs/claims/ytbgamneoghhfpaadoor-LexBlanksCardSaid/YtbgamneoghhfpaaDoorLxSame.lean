/- The document's Same, at lines that are the same; the chapter's example. -/
import Derived.Test.YtbgamneoghhfpaaDoorLxRefLines
namespace Go.Proofs.YtbgamneoghhfpaaDoor.Lx
open Go.RowKit

set_option maxRecDepth 100000 in
set_option maxHeartbeats 2000000 in
theorem same_any (w : World) (va vb : Value) (ls : List Line) (ha : Lines w va ls) (hb : Lines w vb ls) :
    Calls Tryd.prog 10 #[va, vb] w fun e w' => e = .returned (.bool true) ∧ Below w.heap.size w w' := by
  obtain ⟨A, L, c, rfl, hL, h1, h2, h3⟩ := ha.open'
  obtain ⟨A', L', c', rfl, hL', h1', h2', h3'⟩ := hb.open'
  have hLL : L' = L := by omega
  subst hLL
  unfold maxLen at h2 h2'
  have H3 := Lib.hid h3
  have H3' := Lib.hid h3'
  have HL := Lib.hid hL
  clear ha hb hL hL' h3 h3'
  have e1 : ((L' : Int) != (L' : Int)) = false := by simp
  go_enter Tryd.func10, Tryd.ntmps10
  go_wp2
  clear e1
  go_loopw [14] (fun i wr => ∃ k : Nat, k ≤ L' ∧ i = .int .i64 k ∧ Below w.heap.size w wr) (fun i _ => L' - (intOf i).toNat)
  case atStart => exact ⟨0, Nat.zero_le _, rfl, Below.refl _ _⟩
  case round =>
    obtain ⟨k, hk, rfl, hbw⟩ := hrel
    have HB := Lib.hid hbw
    by_cases hlt : k < L'
    · obtain ⟨b, rfl, hb, hc⟩ := H3.out (by omega)
      obtain ⟨b', rfl, hb', hc'⟩ := H3'.out (by omega)
      obtain ⟨g1, u, g2, g3⟩ := hc k hlt
      obtain ⟨g1', u', g2', g3'⟩ := hc' k hlt
      obtain ⟨A1, L1, c1, rfl, hL1, k1, k2, k3⟩ := g3.open'
      obtain ⟨A2, L2, c2, rfl, hL2, l1, l2, l3⟩ := g3'.open'
      have hLL2 : L2 = L1 := by omega
      subst hLL2
      unfold maxLen at k2 l2
      have q1 := (hbw.cell (p := ⟨b, k * 2, none⟩) hb).trans g1
      have q2 := (hbw.cell (p := ⟨b, k * 2 + 1, none⟩) hb).trans g2
      have q3 := (hbw.cell (p := ⟨b', k * 2, none⟩) hb').trans g1'
      have q4 := (hbw.cell (p := ⟨b', k * 2 + 1, none⟩) hb').trans g2'
      have K3 := Lib.hid k3
      have L3 := Lib.hid l3
      have G2 := Lib.hid g2
      have G2' := Lib.hid g2'
      have HBb := Lib.hid hb
      have HBb' := Lib.hid hb'
      have i0 : (0 : Int) ≤ (k : Int) := by omega
      have i1 : (k : Int) < (L' : Int) := by omega
      generalize hx : (nthL ls k).1 = x at q1 q3
      have e1 : ((x : Int) != (x : Int)) = false := by simp
      have e2 : ((L2 : Int) != (L2 : Int)) = false := by simp
      clear hc hc' g1 g1' g2 g2' g3 g3' hL1 hL2 k3 l3 hbw hx
      go_wp2_with fail
      go_quiet (fail)
      clear e1 e2 q1 q3
      go_wp2
      clear q2 q4
      go_loopw [49] (fun i wx => ∃ j : Nat, j ≤ L2 ∧ i = .int .i64 j ∧ Below w.heap.size w wx) (fun i _ => L2 - (intOf i).toNat)
      case atStart => exact ⟨0, Nat.zero_le _, rfl, below_draws HB.out _⟩
      case round =>
        clear HB
        obtain ⟨j, hj, rfl, hbx⟩ := hrel
        have HBX := Lib.hid hbx
        by_cases hjl : j < L2
        · obtain ⟨d, rfl, hd, hcd⟩ := K3.out (by omega)
          obtain ⟨d', rfl, hd', hcd'⟩ := L3.out (by omega)
          have r1 := (hbx.cell (p := ⟨d, j * 2, none⟩) hd).trans (hcd j hjl).1
          have r2 := (hbx.cell (p := ⟨d, j * 2 + 1, none⟩) hd).trans (hcd j hjl).2
          have r3 := (hbx.cell (p := ⟨d', j * 2, none⟩) hd').trans (hcd' j hjl).1
          have r4 := (hbx.cell (p := ⟨d', j * 2 + 1, none⟩) hd').trans (hcd' j hjl).2
          have q2 := (hbx.cell (p := ⟨b, k * 2 + 1, none⟩) HBb.out).trans G2.out
          have q4 := (hbx.cell (p := ⟨b', k * 2 + 1, none⟩) HBb'.out).trans G2'.out
          have j0 : (0 : Int) ≤ (j : Int) := by omega
          have j1 : (j : Int) < (L2 : Int) := by omega
          generalize hx : (nthW (nthL ls k).2 j).1 = x at r1 r3
          generalize hy : (nthW (nthL ls k).2 j).2 = y at r2 r4
          have e1 : ((x : Int) == (x : Int)) = true := by simp
          have e2 : (y.toList == y.toList) = true := by simp
          clear hcd hcd' hbx hx hy
          go_wp2_with fail
          go_quiet (fail)
          go_wp2
          go_roundw
          case rel => exact ⟨j + 1, by omega, by go_num, below_draws HBX.out _⟩
          case measure => simp [intOf]; omega
        · obtain rfl : j = L2 := by omega
          clear hbx
          go_wp2
          go_roundw
          case rel => exact ⟨k + 1, by omega, by go_num, HBX.out⟩
          case measure => simp [intOf]; omega
    · clear hbw
      go_wp2
      go_ret
      exact ⟨rfl, HB.out⟩

def fixS : ByteArray := ⟨#[97, 32, 32, 98, 99, 32, 35, 32, 100]⟩
theorem fix_lex : lexS fixS = .inr [(1, [(1, ⟨#[97]⟩), (4, ⟨#[98, 99]⟩)])] := by decide +kernel

end Go.Proofs.YtbgamneoghhfpaaDoor.Lx
