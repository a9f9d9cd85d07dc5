/- All of a builder. -/
import Derived.Test.YtiomocmceccmbaaCnNg
namespace Go.Proofs.Ytiomocmceccmbaa.Cn
open Go.RowKit

def allP (x : Int) (zs : List Int) : List (List Int) := (zs.map fun y => [ng x, y]) ++ [x :: zs.map ng]

theorem own_row {w : World} {base : Nat} {v : Value} {zs : List Int} {x : Int} (h : Own w base v (x :: zs.map ng)) (hx : -9223372036854775808 ≤ x ∧ x ≤ 9223372036854775807) : Row w base v (x :: zs.map ng) :=
  h.row (fun y hy => by
    rcases List.mem_cons.1 hy with rfl | hy
    · exact hx
    · obtain ⟨z, _, rfl⟩ := List.mem_map.1 hy
      exact ng_in z)

set_option maxRecDepth 100000 in
set_option maxHeartbeats 3200000 in
theorem all_op (w : World) (base B : Nat) (v a : Value) (ba : Nat) (x : Int) (zs : List Int) (vs : List Value) (ls : List (List Int)) (bad : Bool) (h : Bld w base B v vs ls bad false) (hs : Beside w B v a ba zs) (hbase : base ≤ w.heap.size) (hz : zs.length ≤ 12) (hl : ls.length ≤ 60000)
    (hx1 : -9223372036854775808 ≤ x) (hx2 : x ≤ 9223372036854775807) :
    Calls Try.prog 18 #[.pointer (some ⟨B, 0, none⟩), .int .i64 x, a] w (OpPost w base B v vs ls bad (allP x zs) 13) := by
  obtain ⟨A, L, c, rfl, hL, h1, h2, h3⟩ := hs.row.open'
  unfold maxLen at h2
  have hL12 : L ≤ 12 := by omega
  have HL := Lib.hid hL
  have HZ := Lib.hid hl
  have HX := Lib.hid (show -9223372036854775808 ≤ x ∧ x ≤ 9223372036854775807 from ⟨hx1, hx2⟩)
  obtain ⟨nx, hnx⟩ : ∃ nx, ng x = nx := ⟨_, rfl⟩
  have HNX := Lib.hid hnx
  have wx : wrap64 (-x) = nx := hnx
  have HBB := Lib.hid (lt_of_heap h.head)
  have HAB := Lib.hid (show zs ≠ [] → ∀ b, (Value.slice A L c).ownBlock = some b → b < w.heap.size from fun hne b hb => (hs.row.block hne b hb).2)
  have hb1 : Below w.heap.size w (w.alloc (.cells #[.int .i64 x] 3)) := (Below.refl _ _).alloc (Nat.le_refl _) _
  have HS := Lib.hid ((Side2.start h hs).below hb1)
  have HT : Hid (Last w (w.alloc (.cells #[.int .i64 x] 3)) base (.slice (some ⟨w.heap.size, 0, none⟩) 1 1) [x] vs ls) := Lib.hid ⟨Own.one (heap_alloc_new w _) (Nat.le_refl _), (h.rows.below hb1).keep ((h.rows.weak (G := fun b => (Value.slice (some ⟨w.heap.size, 0, none⟩) 1 1).ownBlock = some b) (fun b hb hg => by simp [Value.ownBlock] at hg; omega)).below hb1) (Touch.refl _ (fun _ => False)) (fun _ h => h.elim)⟩
  clear h hL h1 h2 h3 hz hl hs hb1 hnx
  go_enter Try.func18, Try.ntmps18
  go_wp2
  go_loopw [13, 6] (fun i t wr => ∃ (k : Nat) (T : Option Addr) (n tc : Nat) (v' : Value) (vs' : List Value) (ls' : List (List Int)) (bad' : Bool), i = .int .i64 (k : Int) ∧ t = .slice T n tc ∧ k ≤ L ∧ Adds ((zs.take k).map fun y => [ng x, y]) ls bad ls' bad' ∧ Side2 w v vs ls wr base B (.slice A L c) ba zs v' vs' ls' bad' ∧ Last w wr base (.slice T n tc) (x :: (zs.take k).map ng) vs' ls' ∧ ls'.length ≤ ls.length + k) (fun i _ _ => L - (intOf i).toNat)
  case atStart => exact ⟨0, _, _, _, v, vs, ls, bad, rfl, rfl, by omega, ⟨rfl, rfl⟩, HS.out, HT.out, by omega⟩
  case round =>
    clear HS HT
    obtain ⟨k, T, n, tc, v', vs', ls', bad', rfl, rfl, hk, hadds, hside, hlast, hlen⟩ := hrel
    have HA := Lib.hid hadds
    have HS := Lib.hid hside
    have HT := Lib.hid hlast
    have HN := Lib.hid hlen
    clear hadds hside hlast hlen
    by_cases hkl : k < L
    · obtain ⟨b, off, rfl, hcell⟩ := HS.out.side.row.at (by omega)
      obtain ⟨y, hy⟩ : ∃ y, nthI zs k = y := ⟨_, rfl⟩
      have cy := hcell k hkl
      rw [hy] at cy
      have hby := HS.out.side.row.bounds y (by rw [← hy]; exact nthI_mem (by rw [← HL.out]; exact hkl))
      have HYB := Lib.hid hby
      have hnx' : -9223372036854775808 ≤ nx ∧ nx ≤ 9223372036854775807 := by rw [← HNX.out]; exact ng_in x
      obtain ⟨ny, hny⟩ : ∃ ny, ng y = ny := ⟨_, rfl⟩
      have wy : wrap64 (-y) = ny := hny
      have HNY := Lib.hid hny
      have htk : zs.take (k + 1) = zs.take k ++ [y] := by rw [take_snocI (by rw [← HL.out]; exact hkl), hy]
      have HTK := Lib.hid htk
      have HY := Lib.hid hy
      have hbw := (Below.refl wr.heap.size wr).alloc (Nat.le_refl _) (.cells #[.int .i64 nx, .int .i64 y] 3)
      have HS1 := Lib.hid (HS.out.below hbw)
      have HT1 := Lib.hid (HT.out.below hbw)
      have hrow : Row (wr.alloc (.cells #[.int .i64 nx, .int .i64 y] 3)) wr.heap.size (.slice (some ⟨wr.heap.size, 0, none⟩) 2 2) [nx, y] := row_pair wr nx y hnx' hby
      have HROW := Lib.hid hrow
      have hlm : ls'.length < maxC := by have h1 := HN.out; have h2 := HZ.out; unfold maxC; omega
      have HLM := Lib.hid hlm
      have HNXB := Lib.hid hnx'
      clear hy hcell hby hny htk hrow hlm hnx' hbw
      go_wp2_with fail
      refine (add_op _ base B v' vs' ls' bad' HS1.out.step.bld (Nat.le_trans hbase HS1.out.step.touch.size) _ _ [nx, y] HROW.out (by simp) HLM.out).mono ?_
      intro e w2 hp
      obtain ⟨rfl, v2, vs2, ls2, bad2, hadd2, hstep2, hlen2, hside2⟩ := HS1.out.add hp
      have HA2 := Lib.hid (HA.out.append hadd2)
      have HS2 := Lib.hid hside2
      have HT2 := Lib.hid (HT1.out.step HS1.out.step.bld HBB.out hstep2)
      have HN2 := Lib.hid hlen2
      clear hp hadd2 hstep2 hlen2 hside2 cy
      have hbw2 := (Below.refl w2.heap.size w2).alloc (Nat.le_refl _) (.cells #[.int .i64 ny] 3)
      have HS3 := Lib.hid (HS2.out.below hbw2)
      have HT3 := Lib.hid (HT2.out.below hbw2)
      have hnyb : -9223372036854775808 ≤ ny ∧ ny ≤ 9223372036854775807 := by rw [← HNY.out]; exact ng_in y
      have hsz3 : w.heap.size ≤ (w2.alloc (.cells #[.int .i64 ny] 3)).heap.size := HS3.out.step.touch.size
      have hln3 : (x :: (zs.take k).map ng).length + ([ny] : List Int).length ≤ 200000 := by simp; omega
      have HRN := Lib.hid (Row.one (heap_alloc_new w2 (.cells #[.int .i64 ny] 3)) hnyb)
      clear hbw2 hnyb
      go_wp2_with (at_builtin; refine wpList_append_row rfl (.tmp 23) (.tmp 26) rfl rfl (v := .slice T n tc) (x := .slice (some ⟨w2.heap.size, 0, none⟩) 1 1) (xs := x :: (zs.take k).map ng) (zs := [ny]) rfl rfl HT3.out.own HRN.out hln3 hsz3 ?_; intro T4 n4 c4 w4 hown4 hgrow4 hat4; have HT4 := Lib.hid (HT3.out.app hown4 hgrow4 hat4); have HS4 := Lib.hid (HS3.out.other (Touch.of_grown hgrow4 (fun _ h => h)) (fun b hb => (HT3.out.own.least b hb).1) HBB.out (fun g hg hs => HT3.out.own.apartB HS3.out.step.bld g hs hg) HT3.out.rows HAB.out); clear hown4 hgrow4 hat4)
      go_roundw
      case rel => exact ⟨k + 1, T4, n4, c4, v2, vs2, ls2, bad2, by first | rfl | go_num, rfl, by omega, by rw [HTK.out, List.map_append]; simpa [HNX.out] using HA2.out, HS4.out, by rw [HTK.out, List.map_append]; simpa [HNY.out] using HT4.out, by have h1 := HN2.out; have h2 := HN.out; omega⟩
      case measure => simp [intOf]; omega
    · have hkL : k = L := by omega
      subst hkL
      have htk : zs.take k = zs := by rw [HL.out, List.take_length]
      have HT5 : Hid (Row wr w.heap.size (.slice T n tc) (x :: zs.map ng)) := Lib.hid (by have := HT.out.own; rw [htk] at this; exact own_row this HX.out)
      have HA5 : Hid (Adds (zs.map fun y => [ng x, y]) ls bad ls' bad') := Lib.hid (by have := HA.out; rwa [htk] at this)
      clear htk
      go_wp2_with fail
      refine (add_op wr base B v' vs' ls' bad' HS.out.step.bld (Nat.le_trans hbase HS.out.step.touch.size) _ _ _ HT5.out (by simp; have := HL.out; omega) (by have h1 := HN.out; have h2 := HZ.out; unfold maxC; omega)).mono ?_
      intro e w2 hp
      obtain ⟨rfl, v2, vs2, ls2, bad2, hadd2, hstep2, hlen2, hside2⟩ := HS.out.add hp
      have HA2 := Lib.hid (HA5.out.append hadd2)
      have HS2 := Lib.hid hside2
      have HN2 := Lib.hid hlen2
      clear hp hadd2 hstep2 hlen2 hside2
      go_wp2
      go_end0
      exact ⟨rfl, v2, vs2, ls2, bad2, HA2.out, HS2.out.step, by have h1 := HN2.out; have h2 := HN.out; omega⟩

end Go.Proofs.Ytiomocmceccmbaa.Cn
