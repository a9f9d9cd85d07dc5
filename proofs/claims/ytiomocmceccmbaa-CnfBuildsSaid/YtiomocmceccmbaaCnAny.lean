/- Any of a builder. -/
import Derived.Test.YtiomocmceccmbaaCnConcat
namespace Go.Proofs.Ytiomocmceccmbaa.Cn
open Go.RowKit

def anyP (x : Int) (zs : List Int) : List (List Int) := (ng x :: zs) :: zs.map fun y => [ng y, x]

/-- A row of one beside a row that lay there. -/
theorem grid_pair (w : World) (x : Int) (hx : -9223372036854775808 ≤ x ∧ x ≤ 9223372036854775807) (ba : Nat) (A : Option Addr) (L c : Nat) (zs : List Int) (h : Row w ba (.slice A L c) zs) :
    Grid ((w.alloc (.cells #[.int .i64 x] 3)).alloc (.cells #[.slice (some ⟨w.heap.size, 0, none⟩) 1 1, .slice A L c] 22)) (.slice (some ⟨w.heap.size + 1, 0, none⟩) 2 2) [[x], zs] := by
  have hb1 := (Below.refl w.heap.size w).alloc (Nat.le_refl _) (.cells #[.int .i64 x] 3)
  have hb2 := (Below.refl (w.alloc (.cells #[.int .i64 x] 3)).heap.size (w.alloc (.cells #[.int .i64 x] 3))).alloc (Nat.le_refl _) (.cells #[.slice (some ⟨w.heap.size, 0, none⟩) 1 1, .slice A L c] 22)
  have r1 := (Row.one (heap_alloc_new w (.cells #[.int .i64 x] 3)) hx).below hb2
  have r2 := (h.below hb1).below hb2
  have h3 := heap_alloc_new (w.alloc (.cells #[.int .i64 x] 3)) (.cells #[.slice (some ⟨w.heap.size, 0, none⟩) 1 1, .slice A L c] 22)
  rw [show (w.alloc (.cells #[.int .i64 x] 3)).heap.size = w.heap.size + 1 by simp] at h3
  refine ⟨_, 2, [.slice (some ⟨w.heap.size, 0, none⟩) 1 1, .slice A L c], rfl, by simp, by simp [maxLen], .inr ⟨w.heap.size + 1, 0, rfl, by simp, fun j u hu => ?_⟩, rfl, fun j u z hu hz => ?_⟩
  · rw [Nat.zero_add]; exact cells_get h3 j (by simpa using hu)
  · match j, hu, hz with
    | 0, hu, hz => simp at hu hz; subst hu; subst hz; exact ⟨r1.base (Nat.zero_le _), fun _ _ _ h => h⟩
    | 1, hu, hz => simp at hu hz; subst hu; subst hz; exact ⟨r2.base (Nat.zero_le _), fun _ _ _ h => h⟩

set_option maxRecDepth 100000 in
set_option maxHeartbeats 1600000 in
theorem any_op (w : World) (base B : Nat) (v a : Value) (ba : Nat) (x : Int) (zs : List Int) (vs : List Value) (ls : List (List Int)) (bad : Bool) (h : Bld w base B v vs ls bad false) (hs : Beside w B v a ba zs) (hbase : base ≤ w.heap.size) (hz : zs.length ≤ 12) (hl : ls.length ≤ 60000)
    (hx1 : -9223372036854775808 ≤ x) (hx2 : x ≤ 9223372036854775807) :
    Calls Try.prog 19 #[.pointer (some ⟨B, 0, none⟩), .int .i64 x, a] w (OpPost w base B v vs ls bad (anyP x zs) 13) := by
  obtain ⟨A, L, c, rfl, hL, h1, h2, h3⟩ := hs.row.open'
  unfold maxLen at h2
  have hL12 : L ≤ 12 := by omega
  have HL := Lib.hid hL
  have HZ := Lib.hid hl
  obtain ⟨nx, hnx⟩ : ∃ nx, ng x = nx := ⟨_, rfl⟩
  have hnb : -9223372036854775808 ≤ nx ∧ nx ≤ 9223372036854775807 := by rw [← hnx]; exact ng_in x
  have HNX := Lib.hid hnx
  have wx : wrap64 (-x) = nx := hnx
  have HNB := Lib.hid hnb
  have HX := Lib.hid (show -9223372036854775808 ≤ x ∧ x ≤ 9223372036854775807 from ⟨hx1, hx2⟩)
  have hb1 := (Below.refl w.heap.size w).alloc (Nat.le_refl _) (.cells #[.int .i64 nx] 3)
  have hb2 := hb1.alloc (by simp) (.cells #[.slice (some ⟨w.heap.size, 0, none⟩) 1 1, .slice A L c] 22)
  have HS := Lib.hid ((Side2.start h hs).below hb2)
  have HG := Lib.hid (grid_pair w nx hnb ba A L c zs hs.row)
  have HFL := Lib.hid (show ([[nx], zs] : List (List Int)).flatten.length ≤ 100000 by simp; omega)
  clear h hL h1 h2 h3 hz hl hs hb1 hb2 hnx hnb
  go_enter Try.func19, Try.ntmps19
  go_wp2_with fail
  refine (concat_any _ _ _ HG.out HFL.out).mono ?_
  rintro e w1 ⟨T, n, tc, rfl, hown, hb1⟩
  have HS1 := Lib.hid (HS.out.below hb1)
  have HR : Hid (Row w1 w.heap.size (.slice T n tc) (nx :: zs)) := Lib.hid (by
    have h := hown
    rw [show ([[nx], zs] : List (List Int)).flatten = nx :: zs by simp] at h
    exact (h.row (fun y hy => by
      rcases List.mem_cons.1 hy with rfl | hy
      · exact HNB.out
      · exact HS.out.side.row.bounds y hy)).base (by simp; omega))
  clear hown hb1
  go_wp2_with fail
  refine (add_op w1 base B v vs ls bad HS1.out.step.bld (Nat.le_trans hbase HS1.out.step.touch.size) _ _ _ HR.out (by simp; have := HL.out; omega) (by have h2 := HZ.out; unfold maxC; omega)).mono ?_
  intro e w2 hp
  obtain ⟨rfl, v2, vs2, ls2, bad2, hadd2, _, hlen2, hside2⟩ := HS1.out.add hp
  have HA2 := Lib.hid hadd2
  have HS2 := Lib.hid hside2
  have HN2 := Lib.hid hlen2
  clear hp hadd2 hlen2 hside2
  go_wp2
  go_loopw [18] (fun i wr => ∃ (k : Nat) (v' : Value) (vs' : List Value) (ls' : List (List Int)) (bad' : Bool), i = .int .i64 (k : Int) ∧ k ≤ L ∧ Adds ((nx :: zs) :: (zs.take k).map fun y => [ng y, x]) ls bad ls' bad' ∧ Side2 w v vs ls wr base B (.slice A L c) ba zs v' vs' ls' bad' ∧ ls'.length ≤ ls.length + 1 + k) (fun i _ => L - (intOf i).toNat)
  case atStart => exact ⟨0, v2, vs2, ls2, bad2, rfl, by omega, HA2.out, HS2.out, HN2.out⟩
  case round =>
    clear HS HS1 HS2 HA2 HN2 HG HFL HR
    obtain ⟨k, v', vs', ls', bad', rfl, hk, hadds, hside, hlen⟩ := hrel
    have HA := Lib.hid hadds
    have HS := Lib.hid hside
    have HN := Lib.hid hlen
    clear hadds hside hlen
    by_cases hkl : k < L
    · obtain ⟨b, off, rfl, hcell⟩ := HS.out.side.row.at (by omega)
      obtain ⟨y, hy⟩ : ∃ y, nthI zs k = y := ⟨_, rfl⟩
      have cy := hcell k hkl
      rw [hy] at cy
      obtain ⟨ny, hny⟩ : ∃ ny, ng y = ny := ⟨_, rfl⟩
      have wy : wrap64 (-y) = ny := hny
      have HNY := Lib.hid hny
      have hnyb : -9223372036854775808 ≤ ny ∧ ny ≤ 9223372036854775807 := by rw [← hny]; exact ng_in y
      have htk : zs.take (k + 1) = zs.take k ++ [y] := by rw [take_snocI (by rw [← HL.out]; exact hkl), hy]
      have HTK := Lib.hid htk
      have hbw := (Below.refl wr.heap.size wr).alloc (Nat.le_refl _) (.cells #[.int .i64 ny, .int .i64 x] 3)
      have HS1 := Lib.hid (HS.out.below hbw)
      have hrow : Row (wr.alloc (.cells #[.int .i64 ny, .int .i64 x] 3)) wr.heap.size (.slice (some ⟨wr.heap.size, 0, none⟩) 2 2) [ny, x] := row_pair wr ny x hnyb HX.out
      have HROW := Lib.hid hrow
      have hlm : ls'.length < maxC := by have h1 := HN.out; have h2 := HZ.out; unfold maxC; omega
      have HLM := Lib.hid hlm
      clear hy hcell hny htk hrow hlm hnyb hbw
      go_wp2_with fail
      refine (add_op _ base B v' vs' ls' bad' HS1.out.step.bld (Nat.le_trans hbase HS1.out.step.touch.size) _ _ [ny, x] HROW.out (by simp) HLM.out).mono ?_
      intro e w2 hp
      obtain ⟨rfl, v2, vs2, ls2, bad2, hadd2, _, hlen2, hside2⟩ := HS1.out.add hp
      have HA2 := Lib.hid (HA.out.append hadd2)
      have HS2 := Lib.hid hside2
      have HN2 := Lib.hid hlen2
      clear hp hadd2 hlen2 hside2 cy
      go_wp2
      go_roundw
      case rel => exact ⟨k + 1, v2, vs2, ls2, bad2, by first | rfl | go_num, by omega, by rw [HTK.out, List.map_append]; simpa [HNY.out] using HA2.out, HS2.out, by have h1 := HN2.out; have h2 := HN.out; omega⟩
      case measure => simp [intOf]; omega
    · have hkL : k = L := by omega
      subst hkL
      go_wp2
      go_end0
      exact ⟨rfl, v', vs', ls', bad', by
        have := HA.out
        rw [HL.out, List.take_length] at this
        unfold anyP
        rw [HNX.out]; exact this, HS.out.step, by have h1 := HN.out; omega⟩

theorem bad_any (w : World) (base B : Nat) (v : Value) (vs : List Value) (ls : List (List Int)) (bad full : Bool) (h : Bld w base B v vs ls bad full) :
    Calls Try.prog 22 #[.pointer (some ⟨B, 0, none⟩)] w fun e w' => e = .returned (.bool bad) ∧ w' = w := by
  have c1 := cells_get h.head 1 (v := .bool bad) rfl
  clear h
  go_enter Try.func22, Try.ntmps22
  go_wp2
  go_ret
  exact ⟨rfl, rfl⟩
theorem full_any (w : World) (base B : Nat) (v : Value) (vs : List Value) (ls : List (List Int)) (bad full : Bool) (h : Bld w base B v vs ls bad full) :
    Calls Try.prog 23 #[.pointer (some ⟨B, 0, none⟩)] w fun e w' => e = .returned (.bool full) ∧ w' = w := by
  have c1 := cells_get h.head 2 (v := .bool full) rfl
  clear h
  go_enter Try.func23, Try.ntmps23
  go_wp2
  go_ret
  exact ⟨rfl, rfl⟩

end Go.Proofs.Ytiomocmceccmbaa.Cn
