/- Most and One of any numbers. -/
import Derived.Test.YtiomocmceccmbaaCnNg
namespace Go.Proofs.Ytiomocmceccmbaa.Cn
open Go.RowKit

/-- The pairs of a row, of opposites. -/
def prAt (zs : List Int) (i k : Nat) : List (List Int) := (List.range' (i + 1) k).map fun j => [ng (nthI zs i), ng (nthI zs j)]
def prs (zs : List Int) (m : Nat) : List (List Int) := (List.range m).flatMap fun i => prAt zs i (zs.length - (i + 1))
theorem prAt_succ (zs : List Int) (i k : Nat) : prAt zs i (k + 1) = prAt zs i k ++ [[ng (nthI zs i), ng (nthI zs (i + 1 + k))]] := by
  unfold prAt; rw [List.range'_concat]; simp
theorem prs_succ (zs : List Int) (m : Nat) : prs zs (m + 1) = prs zs m ++ prAt zs m (zs.length - (m + 1)) := by
  unfold prs; rw [List.range_succ]; simp

set_option maxRecDepth 100000 in
set_option maxHeartbeats 3200000 in
theorem most_op (w : World) (base B : Nat) (v a : Value) (ba : Nat) (zs : List Int) (vs : List Value) (ls : List (List Int)) (bad : Bool) (h : Bld w base B v vs ls bad false) (hs : Beside w B v a ba zs) (hbase : base ≤ w.heap.size) (hz : zs.length ≤ 12) (hl : ls.length ≤ 60000) :
    Calls Try.prog 16 #[.pointer (some ⟨B, 0, none⟩), a] w (OpPost w base B v vs ls bad (prs zs zs.length) 156) := by
  obtain ⟨A, L, c, rfl, hL, h1, h2, h3⟩ := hs.row.open'
  unfold maxLen at h2
  have hL12 : L ≤ 12 := by omega
  have HL := Lib.hid hL
  have HZ := Lib.hid hl
  have HS := Lib.hid (Side2.start h hs)
  clear h hL h1 h2 h3 hz hl hs
  go_enter Try.func16, Try.ntmps16
  go_wp2
  go_loopw [10] (fun i wr => ∃ (m : Nat) (v' : Value) (vs' : List Value) (ls' : List (List Int)) (bad' : Bool), i = .int .i64 (m : Int) ∧ m ≤ L ∧ Adds (prs zs m) ls bad ls' bad' ∧ Side2 w v vs ls wr base B (.slice A L c) ba zs v' vs' ls' bad' ∧ ls'.length ≤ ls.length + 13 * m) (fun i _ => L - (intOf i).toNat)
  case atStart => exact ⟨0, v, vs, ls, bad, rfl, by omega, ⟨rfl, rfl⟩, HS.out, by omega⟩
  case round =>
    clear HS
    obtain ⟨m, v', vs', ls', bad', rfl, hm, hadds, hside, hlen⟩ := hrel
    have HA := Lib.hid hadds
    have HS := Lib.hid hside
    have HN := Lib.hid hlen
    clear hadds hside hlen
    by_cases hml : m < L
    · go_wp2
      go_loopw [5] (fun i wr => ∃ (k : Nat) (v' : Value) (vs' : List Value) (ls' : List (List Int)) (bad' : Bool), i = .int .i64 ((m : Int) + 1 + (k : Nat)) ∧ m + 1 + k ≤ L ∧ Adds (prs zs m ++ prAt zs m k) ls bad ls' bad' ∧ Side2 w v vs ls wr base B (.slice A L c) ba zs v' vs' ls' bad' ∧ ls'.length ≤ ls.length + 13 * m + k) (fun i _ => L - (intOf i).toNat)
      case atStart => exact ⟨0, v', vs', ls', bad', by first | rfl | go_num, by omega, by simpa [prAt] using HA.out, HS.out, HN.out⟩
      case round =>
        clear HA HS HN
        obtain ⟨k, v', vs', ls', bad', rfl, hk, hadds, hside, hlen⟩ := hrel
        have HA := Lib.hid hadds
        have HS := Lib.hid hside
        have HN := Lib.hid hlen
        clear hadds hside hlen
        by_cases hkl : m + 1 + k < L
        · obtain ⟨b, off, rfl, hcell⟩ := HS.out.side.row.at (by omega)
          obtain ⟨x, hx⟩ : ∃ x, nthI zs m = x := ⟨_, rfl⟩
          obtain ⟨y, hy⟩ : ∃ y, nthI zs (m + 1 + k) = y := ⟨_, rfl⟩
          have cx := hcell m hml
          have cy := hcell (m + 1 + k) hkl
          rw [hx] at cx
          rw [hy] at cy
          obtain ⟨nx, hnx⟩ : ∃ nx, ng x = nx := ⟨_, rfl⟩
          obtain ⟨ny, hny⟩ : ∃ ny, ng y = ny := ⟨_, rfl⟩
          have HNX := Lib.hid hnx
          have HNY := Lib.hid hny
          have HX := Lib.hid hx
          have HY := Lib.hid hy
          have i1 : (0 : Int) ≤ (m : Int) + 1 + (k : Int) := by omega
          have i2 : (m : Int) + 1 + (k : Int) < (L : Int) := by omega
          have i3 : (0 : Int) ≤ (m : Int) := by omega
          have i4 : (m : Int) < (L : Int) := by omega
          have n1 : ((m : Int) + 1 + (k : Int)).toNat = m + 1 + k := by omega
          have hbx : -9223372036854775808 ≤ nx ∧ nx ≤ 9223372036854775807 := by rw [← hnx]; exact ng_in x
          have hby : -9223372036854775808 ≤ ny ∧ ny ≤ 9223372036854775807 := by rw [← hny]; exact ng_in y
          have w1 : IntKind.i64.wrap (-x) = nx := by rw [ng_wrap]; exact hnx
          have w2' : IntKind.i64.wrap (-y) = ny := by rw [ng_wrap]; exact hny
          have HS2 := Lib.hid (HS.out.below (((Below.refl wr.heap.size wr).alloc (Nat.le_refl _) (.cells #[.int .i64 nx, .int .i64 ny] 3)).drew))
          have hbw : base ≤ ((wr.alloc (.cells #[.int .i64 nx, .int .i64 ny] 3)).drew).heap.size := Nat.le_trans hbase HS2.out.step.touch.size
          have hrow : Row ((wr.alloc (.cells #[.int .i64 nx, .int .i64 ny] 3)).drew) wr.heap.size (.slice (some ⟨wr.heap.size, 0, none⟩) 2 2) [nx, ny] := row_pair wr nx ny hbx hby
          have hlm : ls'.length < maxC := by have h1 := HN.out; have h2 := HZ.out; unfold maxC; omega
          have HK := Lib.hid (add_op _ base B v' vs' ls' bad' HS2.out.step.bld hbw _ _ [nx, ny] hrow (by simp) hlm)
          clear hbw hrow hlm hx hy hcell hnx hny hbx hby
          go_wp2_with fail
          go_region_held3 (fun w' => w'.cell? ⟨b, off + m, none⟩ = some (.int .i64 x) ∧ w'.cell? ⟨b, off + (m + 1 + k), none⟩ = some (.int .i64 y)) (first | exact ⟨cell_alloc_l _ (by assumption), cell_alloc_l _ (by assumption)⟩ | exact ⟨by assumption, by assumption⟩ | go_keep) ((go_at_call 15; refine HK.out.mono ?_; intro e w2 hp; obtain ⟨rfl, v2, vs2, ls2, bad2, hs2, _, hl2, hside2⟩ := HS2.out.add hp; have HSA := Lib.hid hs2; have HLA := Lib.hid hl2; have HSB := Lib.hid hside2; have cx2 := HSB.out.side.row.cellOf hml HX.out; have cy2 := HSB.out.side.row.cellOf hkl HY.out; clear hs2 hl2 hside2 hp))
          clear w1 w2' n1
          go_wp2
          go_roundw
          case rel => exact ⟨k + 1, v2, vs2, ls2, bad2, by first | rfl | go_num, by omega, by rw [prAt_succ, ← List.append_assoc]; simpa [HX.out, HY.out, HNX.out, HNY.out] using HA.out.append HSA.out, HSB.out, by have h1 := HLA.out; have h2 := HN.out; omega⟩
          case measure => simp [intOf]; omega
        · have hkL : m + 1 + k = L := by omega
          have hkk : k = zs.length - (m + 1) := by have := HL.out; omega
          have HKK := Lib.hid hkk
          have HHd := HS.out.step.bld.head
          have cf := cells_get HHd 2 (v := .bool false) rfl
          have i1 : (L : Int) ≤ (m : Int) + 1 + (k : Int) := by omega
          clear HHd hkk hkL
          go_wp2
          go_roundw
          case rel => exact ⟨m + 1, v', vs', ls', bad', by first | rfl | go_num, by omega, by rw [prs_succ, ← HKK.out]; exact HA.out, HS.out, by have h1 := HN.out; omega⟩
          case measure => simp [intOf]; omega
    · have hmL : m = L := by omega
      subst hmL
      go_wp2
      go_end0
      exact ⟨rfl, v', vs', ls', bad', by rw [← HL.out]; exact HA.out, HS.out.step, by have h1 := HN.out; omega⟩

set_option maxHeartbeats 1600000 in
theorem one_op (w : World) (base B : Nat) (v a : Value) (ba : Nat) (zs : List Int) (vs : List Value) (ls : List (List Int)) (bad : Bool) (h : Bld w base B v vs ls bad false) (hs : Beside w B v a ba zs) (hbase : base ≤ w.heap.size) (hz : zs.length ≤ 12) (hl : ls.length ≤ 50000) :
    Calls Try.prog 17 #[.pointer (some ⟨B, 0, none⟩), a] w (OpPost w base B v vs ls bad (zs :: prs zs zs.length) 157) := by
  have HS := Lib.hid (Side2.start h hs)
  have HZ := Lib.hid hz
  have HL := Lib.hid hl
  clear h hs hz hl
  go_enter Try.func17, Try.ntmps17
  go_wp2_with fail
  refine (add_op w base B v vs ls bad HS.out.step.bld hbase _ _ zs HS.out.side.row (by have := HZ.out; omega) (by have := HL.out; unfold maxC; omega)).mono ?_
  intro e w1 hp
  obtain ⟨rfl, v1, vs1, ls1, bad1, hs1, _, hl1, hside1⟩ := HS.out.add hp
  have HS1 := Lib.hid hside1
  have HA1 := Lib.hid hs1
  have HL1 := Lib.hid hl1
  clear hp hside1 hs1 hl1
  go_wp2_with fail
  refine (most_op w1 base B v1 a ba zs vs1 ls1 bad1 HS1.out.step.bld HS1.out.side (Nat.le_trans hbase HS1.out.step.touch.size) HZ.out (by have := HL.out; have := HL1.out; omega)).mono ?_
  intro e w2 hp
  obtain ⟨rfl, v2, vs2, ls2, bad2, hs2, _, hl2, hside2⟩ := HS1.out.add hp
  have HS2 := Lib.hid hs2
  have HL2 := Lib.hid hl2
  have HS3 := Lib.hid hside2
  clear hp hside2 hs2 hl2
  go_wp2
  go_end0
  exact ⟨rfl, v2, vs2, ls2, bad2, HA1.out.append HS2.out, HS3.out.step, by have := HL1.out; have := HL2.out; omega⟩

end Go.Proofs.Ytiomocmceccmbaa.Cn
