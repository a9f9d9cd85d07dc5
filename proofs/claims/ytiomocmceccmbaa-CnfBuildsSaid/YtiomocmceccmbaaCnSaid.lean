/- said: an operation's clauses. -/
import Derived.Test.YtiomocmceccmbaaCnOut
namespace Go.Proofs.Ytiomocmceccmbaa.Cn
open Go.RowKit

def SaidPost (w : World) (K : Nat → Prop) (P : List (List Int)) (e : Ending) (w' : World) : Prop := ∃ v us N, e = .returned v ∧ Below w.heap.size w w' ∧ ∀ (S : Nat → Prop) (w2 : World), (∀ b, S b → b < w.heap.size ∧ ¬ K b) → Touch w' w2 S → OwnG w2 N v us P

theorem OpBox.cells {w : World} {N : Nat} {kd x : Int} {A : Option Addr} {L c : Nat} (h : OpBox w N kd x A L c) : w.cell? ⟨N, 0, none⟩ = some (.int .i64 kd) ∧ w.cell? ⟨N, 1, none⟩ = some (.int .i64 x) ∧ w.cell? ⟨N, 2, none⟩ = some (.slice A L c) :=
  ⟨cells_get h 0 rfl, cells_get h 1 rfl, cells_get h 2 rfl⟩
theorem OpBox.below {w w' : World} {N : Nat} {kd x : Int} {A : Option Addr} {L c : Nat} (h : OpBox w N kd x A L c) (hb : Below w.heap.size w w') : OpBox w' N kd x A L c := heap_below h hb

/-- A pair in new memory, to be appended. -/
structure PairIn (K : Nat → Prop) (w0 wr : World) (v : Value) (us : List Value) (ls : List (List Int)) (a b : Int) : Prop where
  out : Out K w0 ((wr.alloc (.cells #[.int .i64 a, .int .i64 b] 3)).alloc (.cells #[.slice (some ⟨wr.heap.size, 0, none⟩) 2 2] 22)) v us ls
  blk : ((wr.alloc (.cells #[.int .i64 a, .int .i64 b] 3)).alloc (.cells #[.slice (some ⟨wr.heap.size, 0, none⟩) 2 2] 22)).heap[wr.heap.size + 1]? = some (.cells #[.slice (some ⟨wr.heap.size, 0, none⟩) 2 2] 22 (0, 0))
  row : Row ((wr.alloc (.cells #[.int .i64 a, .int .i64 b] 3)).alloc (.cells #[.slice (some ⟨wr.heap.size, 0, none⟩) 2 2] 22)) 0 (.slice (some ⟨wr.heap.size, 0, none⟩) 2 2) [a, b]
  apart : ([a, b] : List Int) ≠ [] → ∀ g, (Value.slice (some ⟨wr.heap.size, 0, none⟩) 2 2).ownBlock = some g → ¬ v.ownBlock = some g
  src : Src K w0.heap.size (.slice (some ⟨wr.heap.size, 0, none⟩) 2 2) [a, b]
theorem Out.pair {K : Nat → Prop} {w0 wr : World} {v : Value} {us : List Value} {ls : List (List Int)} (h : Out K w0 wr v us ls) (a b : Int) (ha : -9223372036854775808 ≤ a ∧ a ≤ 9223372036854775807) (hb : -9223372036854775808 ≤ b ∧ b ≤ 9223372036854775807) : PairIn K w0 wr v us ls a b :=
  ⟨h.below (below_two _ _ _), heap_two _ _ _, ((row_pair wr a b ha hb).below (below_oneW _ _ _)).base (Nat.zero_le _), fun _ g hg hv => by simp [Value.ownBlock] at hg; have := (h.lt g hv).2; omega, fun _ g hg => .inl (by simp [Value.ownBlock] at hg; have := h.bel.size; omega)⟩
/-- The same at a later world of the same memory. -/
structure PairAt (K : Nat → Prop) (w0 W : World) (N : Nat) (v : Value) (us : List Value) (ls : List (List Int)) (a b : Int) : Prop where
  out : Out K w0 W v us ls
  blk : W.heap[N + 1]? = some (.cells #[.slice (some ⟨N, 0, none⟩) 2 2] 22 (0, 0))
  row : Row W 0 (.slice (some ⟨N, 0, none⟩) 2 2) [a, b]
  apart : ([a, b] : List Int) ≠ [] → ∀ g, (Value.slice (some ⟨N, 0, none⟩) 2 2).ownBlock = some g → ¬ v.ownBlock = some g
  src : Src K w0.heap.size (.slice (some ⟨N, 0, none⟩) 2 2) [a, b]
theorem PairIn.to {K : Nat → Prop} {w0 wr W : World} {v : Value} {us : List Value} {ls : List (List Int)} {a b : Int} (h : PairIn K w0 wr v us ls a b) (hb : Below ((wr.alloc (.cells #[.int .i64 a, .int .i64 b] 3)).alloc (.cells #[.slice (some ⟨wr.heap.size, 0, none⟩) 2 2] 22)).heap.size ((wr.alloc (.cells #[.int .i64 a, .int .i64 b] 3)).alloc (.cells #[.slice (some ⟨wr.heap.size, 0, none⟩) 2 2] 22)) W) (hh : W.heap = ((wr.alloc (.cells #[.int .i64 a, .int .i64 b] 3)).alloc (.cells #[.slice (some ⟨wr.heap.size, 0, none⟩) 2 2] 22)).heap) : PairAt K w0 W wr.heap.size v us ls a b :=
  ⟨h.out.below hb, by rw [hh]; exact h.blk, h.row.below hb, h.apart, h.src⟩
theorem own_cons {w : World} {base : Nat} {v : Value} {nx : Int} {zs : List Int} (h : Own w base v ([nx] ++ zs)) (hx : -9223372036854775808 ≤ nx ∧ nx ≤ 9223372036854775807) (hb : ∀ y ∈ zs, -9223372036854775808 ≤ y ∧ y ≤ 9223372036854775807) : Row w base v (nx :: zs) :=
  Own.row h (fun y hy => by
    rcases List.mem_cons.1 hy with rfl | hy
    · exact hx
    · exact hb y hy)

set_option maxRecDepth 100000 in
set_option maxHeartbeats 2000000 in
theorem said0 (w : World) (x : Int) (A : Option Addr) (L c ba : Nat) (zs : List Int) (hr : Row w ba (.slice A L c) zs) (hx1 : -9223372036854775808 ≤ x) (hx2 : x ≤ 9223372036854775807) (hz : zs.length ≤ 12) :
    Calls Try.prog 14 #[.agg #[.int .i64 0, .int .i64 x, .slice A L c]] w (SaidPost w (fun b => zs ≠ [] ∧ (Value.slice A L c).ownBlock = some b) ([zs])) := by
  obtain ⟨A', L', c', e, hL, h1, h2, _⟩ := hr.open'
  injection e with e1 e2 e3
  subst e1; subst e2; subst e3
  unfold maxLen at h2
  have hL12 : L ≤ 12 := by omega
  have HL := Lib.hid hL
  have hb1 := (Below.refl w.heap.size w).alloc (Nat.le_refl _) (.cells #[.int .i64 0, .int .i64 x, .slice A L c] 35)
  have HBX : Hid (OpBox (w.alloc (.cells #[.int .i64 0, .int .i64 x, .slice A L c] 35)) w.heap.size 0 x A L c) := Lib.hid (heap_alloc_new w _)
  have HW := Lib.hid (hb1.trans (Below.refl _ _))
  have HR := Lib.hid (hr.below hb1)
  have HXB := Lib.hid (show -9223372036854775808 ≤ x ∧ x ≤ 9223372036854775807 from ⟨hx1, hx2⟩)
  have HO0 := Lib.hid (Out.nil (fun b => zs ≠ [] ∧ (Value.slice A L c).ownBlock = some b) (w.alloc (.cells #[.int .i64 0, .int .i64 x, .slice A L c] 35)))
  obtain ⟨c0, c1, c2⟩ := HBX.out.cells
  clear hr hL h1 hz hb1
  go_enter Try.func14, Try.ntmps14
  go_wp2
  go_ret
  have hO := Out.one (w.alloc (.cells #[.int .i64 0, .int .i64 x, .slice A L c] 35)) (HR.out.base (Nat.zero_le _)) (fun b => zs ≠ [] ∧ (Value.slice A L c).ownBlock = some b) (fun hne b hb => .inr ⟨hne, hb⟩)
  rw [show (Value.slice (some ⟨((w.alloc (.cells #[.int .i64 0, .int .i64 x, .slice A L c] 35))).heap.size, 0, none⟩) 1 1) = .slice (some ⟨w.heap.size + 1, 0, none⟩) 1 1 by simp] at hO
  exact ⟨.slice (some ⟨w.heap.size + 1, 0, none⟩) 1 1, _, _, rfl, HW.out.trans (hO.bel.mono HW.out.size), fun S w2 hS ht => hO.survive (fun b hb => ⟨by have := (hS b hb).1; simp; omega, (hS b hb).2⟩) ht⟩

set_option maxRecDepth 100000 in
set_option maxHeartbeats 2000000 in
theorem saidE (w : World) (kd x : Int) (k0 : ¬ kd = 0) (k1 : ¬ kd = 1) (k2 : ¬ kd = 2) (k3 : ¬ kd = 3) (A : Option Addr) (L c ba : Nat) (zs : List Int) (hr : Row w ba (.slice A L c) zs) (hx1 : -9223372036854775808 ≤ x) (hx2 : x ≤ 9223372036854775807) (hz : zs.length ≤ 12) :
    Calls Try.prog 14 #[.agg #[.int .i64 kd, .int .i64 x, .slice A L c]] w (SaidPost w (fun b => zs ≠ [] ∧ (Value.slice A L c).ownBlock = some b) (anyP x zs)) := by
  obtain ⟨A', L', c', e, hL, h1, h2, _⟩ := hr.open'
  injection e with e1 e2 e3
  subst e1; subst e2; subst e3
  unfold maxLen at h2
  have hL12 : L ≤ 12 := by omega
  have HL := Lib.hid hL
  have hb1 := (Below.refl w.heap.size w).alloc (Nat.le_refl _) (.cells #[.int .i64 kd, .int .i64 x, .slice A L c] 35)
  have HBX : Hid (OpBox (w.alloc (.cells #[.int .i64 kd, .int .i64 x, .slice A L c] 35)) w.heap.size kd x A L c) := Lib.hid (heap_alloc_new w _)
  have HW := Lib.hid (hb1.trans (Below.refl _ _))
  have HR := Lib.hid (hr.below hb1)
  have HXB := Lib.hid (show -9223372036854775808 ≤ x ∧ x ≤ 9223372036854775807 from ⟨hx1, hx2⟩)
  have HO0 := Lib.hid (Out.nil (fun b => zs ≠ [] ∧ (Value.slice A L c).ownBlock = some b) (w.alloc (.cells #[.int .i64 kd, .int .i64 x, .slice A L c] 35)))
  obtain ⟨c0, c1, c2⟩ := HBX.out.cells
  clear hr hL h1 hz hb1
  have g0 : (kd == 0) = false := by simpa using k0
  have g1 : (kd == 1) = false := by simpa using k1
  have g2 : (kd == 2) = false := by simpa using k2
  have g3 : (kd == 3) = false := by simpa using k3
  obtain ⟨nx, hnx⟩ : ∃ nx, ng x = nx := ⟨_, rfl⟩
  have hnb : -9223372036854775808 ≤ nx ∧ nx ≤ 9223372036854775807 := by rw [← hnx]; exact ng_in x
  have HNX := Lib.hid hnx
  have wx : wrap64 (-x) = nx := hnx
  have HNB := Lib.hid hnb
  have HB2 := Lib.hid (bel_new (w.alloc (.cells #[.int .i64 kd, .int .i64 x, .slice A L c] 35)) (.cells #[.int .i64 nx] 3))
  have HO1 : Hid (Own ((w.alloc (.cells #[.int .i64 kd, .int .i64 x, .slice A L c] 35)).alloc (.cells #[.int .i64 nx] 3)) (w.alloc (.cells #[.int .i64 kd, .int .i64 x, .slice A L c] 35)).heap.size (.slice (some ⟨(w.alloc (.cells #[.int .i64 kd, .int .i64 x, .slice A L c] 35)).heap.size, 0, none⟩) 1 1) [nx]) := Lib.hid (Own.one (heap_alloc_new _ _) (Nat.le_refl _))
  have HR1 := Lib.hid (HR.out.below HB2.out)
  have hs1 : (w.alloc (.cells #[.int .i64 kd, .int .i64 x, .slice A L c] 35)).heap.size ≤ ((w.alloc (.cells #[.int .i64 kd, .int .i64 x, .slice A L c] 35)).alloc (.cells #[.int .i64 nx] 3)).heap.size := by simp
  have hl1 : ([nx] : List Int).length + zs.length ≤ 200000 := by simp; have := HL.out; omega
  obtain ⟨d0, d1, d2⟩ := (HBX.out.below HB2.out).cells
  have hsz : ((w.alloc (.cells #[.int .i64 kd, .int .i64 x, .slice A L c] 35))).heap.size = w.heap.size + 1 := by simp
  rw [hsz] at HO1 hs1
  clear hnx hnb
  go_enter Try.func14, Try.ntmps14
  go_wp2_with (first | (at_builtin; refine wpList_append_row rfl (.tmp 96) (.tmp 98) rfl rfl (v := .slice (some ⟨w.heap.size + 1, 0, none⟩) 1 1) (x := .slice A L c) (xs := [nx]) (zs := zs) rfl rfl HO1.out HR1.out hl1 hs1 ?_; intro T4 n4 c4 w4 hown4 hgrow4 hat4; have HW4 := Lib.hid (Touch.belows HB2.out (Touch.of_grown (S := fun b => b = w.heap.size + 1) hgrow4 (fun b hb => by simp [Value.ownBlock] at hb; omega)) (Nat.le_refl _) (fun b hb => by simp; omega)); have HR4 := Lib.hid (((own_cons hown4 HNB.out HR1.out.bounds).below (bel_new w4 (.cells #[.slice T4 n4 c4] 22))).base (Nat.zero_le _)); have HLB4 := Lib.hid (fun b (hb : (Value.slice T4 n4 c4).ownBlock = some b) => (hown4.least b hb).1); have HO4 := Lib.hid (HO0.out.below (HW4.out.alloc HW4.out.size (.cells #[.slice T4 n4 c4] 22))); obtain ⟨e0, e1, e2⟩ := (HBX.out.below HW4.out).cells; clear hown4 hgrow4 hat4 d0 d1 d2) | (at_builtin; refine app_one (W := w4.alloc (.cells #[.slice T4 n4 c4] 22)) (z := nx :: zs) (.tmp 92) (.tmp 100) rfl rfl rfl HO4.out rfl (heap_alloc_new w4 _) HR4.out (fun _ b _ hb => by simp [Value.ownBlock] at hb) (fun _ b hb => .inl (by have := HLB4.out b hb; simp; omega)) (by simp) ?_; intro T5 n5 c5 us5 w5 hO5 _; have HO5 := Lib.hid hO5; obtain ⟨f0, f1, f2⟩ := (HBX.out.below hO5.bel).cells; clear hO5 e0 e1 e2))
  go_loopw [105, 3] (fun i t wr => ∃ (k : Nat) (T : Option Addr) (n tc : Nat) (us : List Value), i = .int .i64 (k : Int) ∧ t = .slice T n tc ∧ k ≤ L ∧ Out (fun b => zs ≠ [] ∧ (Value.slice A L c).ownBlock = some b) (w.alloc (.cells #[.int .i64 kd, .int .i64 x, .slice A L c] 35)) wr (.slice T n tc) us ((nx :: zs) :: (zs.take k).map fun y => [ng y, x])) (fun i _ _ => L - (intOf i).toNat)
  case atStart => exact ⟨0, _, _, _, _, rfl, rfl, by omega, HO5.out⟩
  case round =>
    clear HO5 f0 f1 f2
    obtain ⟨k, T, n, tc, us, rfl, rfl, hk, hO⟩ := hrel
    have HO := Lib.hid hO
    obtain ⟨f0, f1, f2⟩ := (HBX.out.below hO.bel).cells
    clear hO
    by_cases hkl : k < L
    · have HRR := Lib.hid (HR.out.below HO.out.bel)
      obtain ⟨b, off, rfl, hcell⟩ := HRR.out.at (by omega)
      obtain ⟨y, hy⟩ : ∃ y, nthI zs k = y := ⟨_, rfl⟩
      have cy := hcell k hkl
      rw [hy] at cy
      obtain ⟨ny, hny⟩ : ∃ ny, ng y = ny := ⟨_, rfl⟩
      have wy : wrap64 (-y) = ny := hny
      have HNY := Lib.hid hny
      have HTK := Lib.hid (show zs.take (k + 1) = zs.take k ++ [y] by rw [take_snocI (by rw [← HL.out]; exact hkl), hy])
      have HP := Lib.hid (HO.out.pair ny x (by rw [← hny]; exact ng_in y) HXB.out)
      have HLN := Lib.hid (show ((nx :: zs) :: (zs.take k).map fun y => [ng y, x]).length ≤ 400000 by simp; omega)
      clear hy hcell hny
      go_wp2_with (at_builtin; refine app_one (W := ((wr.alloc (.cells #[.int .i64 ny, .int .i64 x] 3)).alloc (.cells #[.slice (some ⟨wr.heap.size, 0, none⟩) 2 2] 22))) (.tmp 109) (.tmp 115) rfl rfl rfl HP.out.out rfl HP.out.blk HP.out.row HP.out.apart HP.out.src HLN.out ?_; intro T6 n6 c6 us6 w6 hO6 _; have HO6 := Lib.hid hO6; clear hO6)
      go_roundw
      case rel => exact ⟨k + 1, T6, n6, c6, us6, by first | rfl | go_num, rfl, by omega, by rw [HTK.out, List.map_append]; simpa [HNY.out] using HO6.out⟩
      case measure => simp [intOf]; omega
    · have hkL : k = L := by omega
      subst hkL
      go_wp2
      go_ret
      have hO := HO.out
      have htk : zs.take k = zs := by rw [HL.out, List.take_length]
      rw [htk] at hO
      have hP : anyP x zs = (nx :: zs) :: zs.map fun y => [ng y, x] := by unfold anyP; rw [HNX.out]
      rw [← hP] at hO
      exact ⟨.slice T n tc, _, _, rfl, HW.out.trans (hO.bel.mono HW.out.size), fun S w2 hS ht => hO.survive (fun b hb => ⟨by have := (hS b hb).1; simp; omega, (hS b hb).2⟩) ht⟩

set_option maxRecDepth 100000 in
set_option maxHeartbeats 2000000 in
theorem said1 (w : World) (x : Int) (A : Option Addr) (L c ba : Nat) (zs : List Int) (hr : Row w ba (.slice A L c) zs) (hx1 : -9223372036854775808 ≤ x) (hx2 : x ≤ 9223372036854775807) (hz : zs.length ≤ 12) :
    Calls Try.prog 14 #[.agg #[.int .i64 1, .int .i64 x, .slice A L c]] w (SaidPost w (fun b => zs ≠ [] ∧ (Value.slice A L c).ownBlock = some b) (prs zs zs.length)) := by
  obtain ⟨A', L', c', e, hL, h1, h2, _⟩ := hr.open'
  injection e with e1 e2 e3
  subst e1; subst e2; subst e3
  unfold maxLen at h2
  have hL12 : L ≤ 12 := by omega
  have HL := Lib.hid hL
  have hb1 := (Below.refl w.heap.size w).alloc (Nat.le_refl _) (.cells #[.int .i64 1, .int .i64 x, .slice A L c] 35)
  have HBX : Hid (OpBox (w.alloc (.cells #[.int .i64 1, .int .i64 x, .slice A L c] 35)) w.heap.size 1 x A L c) := Lib.hid (heap_alloc_new w _)
  have HW := Lib.hid (hb1.trans (Below.refl _ _))
  have HR := Lib.hid (hr.below hb1)
  have HXB := Lib.hid (show -9223372036854775808 ≤ x ∧ x ≤ 9223372036854775807 from ⟨hx1, hx2⟩)
  have HO0 := Lib.hid (Out.nil (fun b => zs ≠ [] ∧ (Value.slice A L c).ownBlock = some b) (w.alloc (.cells #[.int .i64 1, .int .i64 x, .slice A L c] 35)))
  obtain ⟨c0, c1, c2⟩ := HBX.out.cells
  clear hr hL h1 hz hb1
  go_enter Try.func14, Try.ntmps14
  go_wp2
  have HO5 : Hid (Out (fun b => zs ≠ [] ∧ (Value.slice A L c).ownBlock = some b) (w.alloc (.cells #[.int .i64 1, .int .i64 x, .slice A L c] 35)) (w.alloc (.cells #[.int .i64 1, .int .i64 x, .slice A L c] 35)) (.slice none 0 0) [] []) := HO0
  go_loopw [32, 3] (fun i t wr => ∃ (m : Nat) (T : Option Addr) (n tc : Nat) (us : List Value) (ls : List (List Int)), i = .int .i64 (m : Int) ∧ t = .slice T n tc ∧ m ≤ L ∧ Out (fun b => zs ≠ [] ∧ (Value.slice A L c).ownBlock = some b) (w.alloc (.cells #[.int .i64 1, .int .i64 x, .slice A L c] 35)) wr (.slice T n tc) us ls ∧ ls = [] ++ prs zs m ∧ ls.length ≤ 1 + 13 * m) (fun i _ _ => L - (intOf i).toNat)
  case atStart => exact ⟨0, _, _, _, _, _, rfl, rfl, by omega, HO5.out, by simp [prs], by simp⟩
  case round =>
    clear HO5 c0 c1 c2
    obtain ⟨m, T, n, tc, us, ls, rfl, rfl, hm, hO, hls, hln⟩ := hrel
    have HO := Lib.hid hO
    have HLS := Lib.hid hls
    have HLN := Lib.hid hln
    obtain ⟨f0, f1, f2⟩ := (HBX.out.below hO.bel).cells
    clear hO hls hln
    by_cases hml : m < L
    · go_wp2
      go_loopw [5, 3] (fun i t wr => ∃ (k : Nat) (T : Option Addr) (n tc : Nat) (us : List Value) (ls : List (List Int)), i = .int .i64 ((m : Int) + 1 + (k : Nat)) ∧ t = .slice T n tc ∧ m + 1 + k ≤ L ∧ Out (fun b => zs ≠ [] ∧ (Value.slice A L c).ownBlock = some b) (w.alloc (.cells #[.int .i64 1, .int .i64 x, .slice A L c] 35)) wr (.slice T n tc) us ls ∧ ls = [] ++ prs zs m ++ prAt zs m k ∧ ls.length ≤ 1 + 13 * m + k) (fun i _ _ => L - (intOf i).toNat)
      case atStart => exact ⟨0, _, _, _, _, _, by first | rfl | go_num, rfl, by omega, HO.out, by simpa [prAt] using HLS.out, HLN.out⟩
      case round =>
        clear HO HLS HLN f0 f1 f2
        obtain ⟨k, T, n, tc, us, ls, rfl, rfl, hk, hO, hls, hln⟩ := hrel
        have HO := Lib.hid hO
        have HLS := Lib.hid hls
        have HLN := Lib.hid hln
        obtain ⟨f0, f1, f2⟩ := (HBX.out.below hO.bel).cells
        clear hO hls hln
        by_cases hkl : m + 1 + k < L
        · have HRR := Lib.hid (HR.out.below HO.out.bel)
          obtain ⟨b, off, rfl, hcell⟩ := HRR.out.at (by omega)
          obtain ⟨y1, hy1⟩ : ∃ y, nthI zs m = y := ⟨_, rfl⟩
          obtain ⟨y2, hy2⟩ : ∃ y, nthI zs (m + 1 + k) = y := ⟨_, rfl⟩
          have cx := hcell m hml
          have cy := hcell (m + 1 + k) hkl
          rw [hy1] at cx
          rw [hy2] at cy
          obtain ⟨nx, hnx⟩ : ∃ nx, ng y1 = nx := ⟨_, rfl⟩
          obtain ⟨ny, hny⟩ : ∃ ny, ng y2 = ny := ⟨_, rfl⟩
          have HV := Lib.hid (show prAt zs m (k + 1) = prAt zs m k ++ [[nx, ny]] by rw [prAt_succ, hy1, hy2, hnx, hny])
          have i1 : (0 : Int) ≤ (m : Int) + 1 + (k : Int) := by omega
          have i2 : (m : Int) + 1 + (k : Int) < (L : Int) := by omega
          have i3 : (0 : Int) ≤ (m : Int) := by omega
          have i4 : (m : Int) < (L : Int) := by omega
          have n1 : ((m : Int) + 1 + (k : Int)).toNat = m + 1 + k := by omega
          have HP := Lib.hid (HO.out.pair nx ny (by rw [← hnx]; exact ng_in y1) (by rw [← hny]; exact ng_in y2))
          have HP0 := Lib.hid (HP.out.to (W := ((wr.alloc (.cells #[.int .i64 nx, .int .i64 ny] 3)).alloc (.cells #[.slice (some ⟨wr.heap.size, 0, none⟩) 2 2] 22)).drew) ⟨rfl, rfl, rfl, Nat.le_refl _, fun _ _ => rfl⟩ rfl)
          have w1 : IntKind.i64.wrap (-y1) = nx := by rw [ng_wrap]; exact hnx
          have w2' : IntKind.i64.wrap (-y2) = ny := by rw [ng_wrap]; exact hny
          have HSZ := Lib.hid (show ls.length ≤ 400000 by have := HLN.out; omega)
          have HY1 := Lib.hid hy1
          have HY2 := Lib.hid hy2
          clear hy1 hy2 hcell hnx hny
          go_wp2_with fail
          go_region_held3 (fun w' => w'.cell? ⟨w.heap.size, 2, none⟩ = some (.slice (some ⟨b, off, none⟩) L c) ∧ w'.cell? ⟨b, off + m, none⟩ = some (.int .i64 y1) ∧ w'.cell? ⟨b, off + (m + 1 + k), none⟩ = some (.int .i64 y2)) (first | exact ⟨cell_alloc_l _ (cell_alloc_l _ (by assumption)), cell_alloc_l _ (cell_alloc_l _ (by assumption)), cell_alloc_l _ (cell_alloc_l _ (by assumption))⟩ | exact ⟨cell_alloc_l _ (by assumption), cell_alloc_l _ (by assumption), cell_alloc_l _ (by assumption)⟩ | exact ⟨by assumption, by assumption, by assumption⟩ | go_keep) ((refine step_app_one (W := ((wr.alloc (.cells #[.int .i64 nx, .int .i64 ny] 3)).alloc (.cells #[.slice (some ⟨wr.heap.size, 0, none⟩) 2 2] 22)).drew) (us := us) (ls := ls) (z := [nx, ny]) (.tmp 44) (.tmp 58) (by rfl) (by rfl) (by rfl) HP0.out.out (by rfl) HP0.out.blk HP0.out.row HP0.out.apart HP0.out.src HSZ.out ?_; intro T6 n6 c6 us6 w6 hO6 hg6; have HO6 := Lib.hid hO6; have f2 := (HBX.out.below hO6.bel).cells.2.2; have HR6 := HR.out.below hO6.bel; have cx := HR6.cellOf hml HY1.out; have cy := HR6.cellOf hkl HY2.out; clear HR6 hO6 hg6))
          clear w1 w2' n1
          go_wp2
          go_roundw
          case rel => exact ⟨k + 1, T6, n6, c6, us6, ls ++ [[nx, ny]], by first | rfl | go_num, rfl, by omega, HO6.out, by rw [HV.out, ← List.append_assoc, ← HLS.out], by have := HLN.out; simp; omega⟩
          case measure => simp [intOf]; omega
        · have hkL : m + 1 + k = L := by omega
          have hkk : k = zs.length - (m + 1) := by have := HL.out; omega
          have HKK := Lib.hid hkk
          have i1 : (L : Int) ≤ (m : Int) + 1 + (k : Int) := by omega
          clear hkk hkL
          go_wp2
          go_roundw
          case rel => exact ⟨m + 1, T, n, tc, us, ls, by first | rfl | go_num, rfl, by omega, HO.out, by rw [prs_succ, ← HKK.out, ← List.append_assoc]; exact HLS.out, by have := HLN.out; omega⟩
          case measure => simp [intOf]; omega
    · have hmL : m = L := by omega
      subst hmL
      go_wp2
      go_ret
      have hls := HLS.out
      have hO := HO.out
      rw [hls] at hO
      have hP : [] ++ prs zs m = (prs zs zs.length) := by rw [HL.out]; first | rfl | simp
      rw [hP] at hO
      exact ⟨.slice T n tc, _, _, rfl, HW.out.trans (hO.bel.mono HW.out.size), fun S w2 hS ht => hO.survive (fun b hb => ⟨by have := (hS b hb).1; simp; omega, (hS b hb).2⟩) ht⟩

set_option maxRecDepth 100000 in
set_option maxHeartbeats 2000000 in
theorem said2 (w : World) (x : Int) (A : Option Addr) (L c ba : Nat) (zs : List Int) (hr : Row w ba (.slice A L c) zs) (hx1 : -9223372036854775808 ≤ x) (hx2 : x ≤ 9223372036854775807) (hz : zs.length ≤ 12) :
    Calls Try.prog 14 #[.agg #[.int .i64 2, .int .i64 x, .slice A L c]] w (SaidPost w (fun b => zs ≠ [] ∧ (Value.slice A L c).ownBlock = some b) (zs :: prs zs zs.length)) := by
  obtain ⟨A', L', c', e, hL, h1, h2, _⟩ := hr.open'
  injection e with e1 e2 e3
  subst e1; subst e2; subst e3
  unfold maxLen at h2
  have hL12 : L ≤ 12 := by omega
  have HL := Lib.hid hL
  have hb1 := (Below.refl w.heap.size w).alloc (Nat.le_refl _) (.cells #[.int .i64 2, .int .i64 x, .slice A L c] 35)
  have HBX : Hid (OpBox (w.alloc (.cells #[.int .i64 2, .int .i64 x, .slice A L c] 35)) w.heap.size 2 x A L c) := Lib.hid (heap_alloc_new w _)
  have HW := Lib.hid (hb1.trans (Below.refl _ _))
  have HR := Lib.hid (hr.below hb1)
  have HXB := Lib.hid (show -9223372036854775808 ≤ x ∧ x ≤ 9223372036854775807 from ⟨hx1, hx2⟩)
  have HO0 := Lib.hid (Out.nil (fun b => zs ≠ [] ∧ (Value.slice A L c).ownBlock = some b) (w.alloc (.cells #[.int .i64 2, .int .i64 x, .slice A L c] 35)))
  obtain ⟨c0, c1, c2⟩ := HBX.out.cells
  clear hr hL h1 hz hb1
  have HO4 := Lib.hid (HO0.out.below (bel_new (w.alloc (.cells #[.int .i64 2, .int .i64 x, .slice A L c] 35)) (.cells #[.slice A L c] 22)))
  have HR4 := Lib.hid ((HR.out.below (bel_new (w.alloc (.cells #[.int .i64 2, .int .i64 x, .slice A L c] 35)) (.cells #[.slice A L c] 22))).base (Nat.zero_le _))
  have hbk := heap_alloc_new (w.alloc (.cells #[.int .i64 2, .int .i64 x, .slice A L c] 35)) (.cells #[.slice A L c] 22)
  rw [show ((w.alloc (.cells #[.int .i64 2, .int .i64 x, .slice A L c] 35))).heap.size = w.heap.size + 1 by simp] at hbk
  have HBK := Lib.hid hbk
  clear hbk
  go_enter Try.func14, Try.ntmps14
  go_wp2_with (at_builtin; refine app_one (W := (w.alloc (.cells #[.int .i64 2, .int .i64 x, .slice A L c] 35)).alloc (.cells #[.slice A L c] 22)) (z := zs) (.tmp 24) (.tmp 27) rfl rfl rfl HO4.out rfl HBK.out HR4.out (fun _ b _ hb => by simp [Value.ownBlock] at hb) (fun hne b hb => .inr ⟨hne, hb⟩) (by simp) ?_; intro T5 n5 c5 us5 w5 hO5 _; have HO5 := Lib.hid hO5; obtain ⟨f0, f1, f2⟩ := (HBX.out.below hO5.bel).cells; clear hO5 c0 c1 c2)
  go_loopw [32, 3] (fun i t wr => ∃ (m : Nat) (T : Option Addr) (n tc : Nat) (us : List Value) (ls : List (List Int)), i = .int .i64 (m : Int) ∧ t = .slice T n tc ∧ m ≤ L ∧ Out (fun b => zs ≠ [] ∧ (Value.slice A L c).ownBlock = some b) (w.alloc (.cells #[.int .i64 2, .int .i64 x, .slice A L c] 35)) wr (.slice T n tc) us ls ∧ ls = [zs] ++ prs zs m ∧ ls.length ≤ 1 + 13 * m) (fun i _ _ => L - (intOf i).toNat)
  case atStart => exact ⟨0, _, _, _, _, _, rfl, rfl, by omega, HO5.out, by simp [prs], by simp⟩
  case round =>
    clear HO5 f0 f1 f2
    obtain ⟨m, T, n, tc, us, ls, rfl, rfl, hm, hO, hls, hln⟩ := hrel
    have HO := Lib.hid hO
    have HLS := Lib.hid hls
    have HLN := Lib.hid hln
    obtain ⟨f0, f1, f2⟩ := (HBX.out.below hO.bel).cells
    clear hO hls hln
    by_cases hml : m < L
    · go_wp2
      go_loopw [5, 3] (fun i t wr => ∃ (k : Nat) (T : Option Addr) (n tc : Nat) (us : List Value) (ls : List (List Int)), i = .int .i64 ((m : Int) + 1 + (k : Nat)) ∧ t = .slice T n tc ∧ m + 1 + k ≤ L ∧ Out (fun b => zs ≠ [] ∧ (Value.slice A L c).ownBlock = some b) (w.alloc (.cells #[.int .i64 2, .int .i64 x, .slice A L c] 35)) wr (.slice T n tc) us ls ∧ ls = [zs] ++ prs zs m ++ prAt zs m k ∧ ls.length ≤ 1 + 13 * m + k) (fun i _ _ => L - (intOf i).toNat)
      case atStart => exact ⟨0, _, _, _, _, _, by first | rfl | go_num, rfl, by omega, HO.out, by simpa [prAt] using HLS.out, HLN.out⟩
      case round =>
        clear HO HLS HLN f0 f1 f2
        obtain ⟨k, T, n, tc, us, ls, rfl, rfl, hk, hO, hls, hln⟩ := hrel
        have HO := Lib.hid hO
        have HLS := Lib.hid hls
        have HLN := Lib.hid hln
        obtain ⟨f0, f1, f2⟩ := (HBX.out.below hO.bel).cells
        clear hO hls hln
        by_cases hkl : m + 1 + k < L
        · have HRR := Lib.hid (HR.out.below HO.out.bel)
          obtain ⟨b, off, rfl, hcell⟩ := HRR.out.at (by omega)
          obtain ⟨y1, hy1⟩ : ∃ y, nthI zs m = y := ⟨_, rfl⟩
          obtain ⟨y2, hy2⟩ : ∃ y, nthI zs (m + 1 + k) = y := ⟨_, rfl⟩
          have cx := hcell m hml
          have cy := hcell (m + 1 + k) hkl
          rw [hy1] at cx
          rw [hy2] at cy
          obtain ⟨nx, hnx⟩ : ∃ nx, ng y1 = nx := ⟨_, rfl⟩
          obtain ⟨ny, hny⟩ : ∃ ny, ng y2 = ny := ⟨_, rfl⟩
          have HV := Lib.hid (show prAt zs m (k + 1) = prAt zs m k ++ [[nx, ny]] by rw [prAt_succ, hy1, hy2, hnx, hny])
          have i1 : (0 : Int) ≤ (m : Int) + 1 + (k : Int) := by omega
          have i2 : (m : Int) + 1 + (k : Int) < (L : Int) := by omega
          have i3 : (0 : Int) ≤ (m : Int) := by omega
          have i4 : (m : Int) < (L : Int) := by omega
          have n1 : ((m : Int) + 1 + (k : Int)).toNat = m + 1 + k := by omega
          have HP := Lib.hid (HO.out.pair nx ny (by rw [← hnx]; exact ng_in y1) (by rw [← hny]; exact ng_in y2))
          have HP0 := Lib.hid (HP.out.to (W := ((wr.alloc (.cells #[.int .i64 nx, .int .i64 ny] 3)).alloc (.cells #[.slice (some ⟨wr.heap.size, 0, none⟩) 2 2] 22)).drew) ⟨rfl, rfl, rfl, Nat.le_refl _, fun _ _ => rfl⟩ rfl)
          have w1 : IntKind.i64.wrap (-y1) = nx := by rw [ng_wrap]; exact hnx
          have w2' : IntKind.i64.wrap (-y2) = ny := by rw [ng_wrap]; exact hny
          have HSZ := Lib.hid (show ls.length ≤ 400000 by have := HLN.out; omega)
          have HY1 := Lib.hid hy1
          have HY2 := Lib.hid hy2
          clear hy1 hy2 hcell hnx hny
          go_wp2_with fail
          go_region_held3 (fun w' => w'.cell? ⟨w.heap.size, 2, none⟩ = some (.slice (some ⟨b, off, none⟩) L c) ∧ w'.cell? ⟨b, off + m, none⟩ = some (.int .i64 y1) ∧ w'.cell? ⟨b, off + (m + 1 + k), none⟩ = some (.int .i64 y2)) (first | exact ⟨cell_alloc_l _ (cell_alloc_l _ (by assumption)), cell_alloc_l _ (cell_alloc_l _ (by assumption)), cell_alloc_l _ (cell_alloc_l _ (by assumption))⟩ | exact ⟨cell_alloc_l _ (by assumption), cell_alloc_l _ (by assumption), cell_alloc_l _ (by assumption)⟩ | exact ⟨by assumption, by assumption, by assumption⟩ | go_keep) ((refine step_app_one (W := ((wr.alloc (.cells #[.int .i64 nx, .int .i64 ny] 3)).alloc (.cells #[.slice (some ⟨wr.heap.size, 0, none⟩) 2 2] 22)).drew) (us := us) (ls := ls) (z := [nx, ny]) (.tmp 44) (.tmp 58) (by rfl) (by rfl) (by rfl) HP0.out.out (by rfl) HP0.out.blk HP0.out.row HP0.out.apart HP0.out.src HSZ.out ?_; intro T6 n6 c6 us6 w6 hO6 hg6; have HO6 := Lib.hid hO6; have f2 := (HBX.out.below hO6.bel).cells.2.2; have HR6 := HR.out.below hO6.bel; have cx := HR6.cellOf hml HY1.out; have cy := HR6.cellOf hkl HY2.out; clear HR6 hO6 hg6))
          clear w1 w2' n1
          go_wp2
          go_roundw
          case rel => exact ⟨k + 1, T6, n6, c6, us6, ls ++ [[nx, ny]], by first | rfl | go_num, rfl, by omega, HO6.out, by rw [HV.out, ← List.append_assoc, ← HLS.out], by have := HLN.out; simp; omega⟩
          case measure => simp [intOf]; omega
        · have hkL : m + 1 + k = L := by omega
          have hkk : k = zs.length - (m + 1) := by have := HL.out; omega
          have HKK := Lib.hid hkk
          have i1 : (L : Int) ≤ (m : Int) + 1 + (k : Int) := by omega
          clear hkk hkL
          go_wp2
          go_roundw
          case rel => exact ⟨m + 1, T, n, tc, us, ls, by first | rfl | go_num, rfl, by omega, HO.out, by rw [prs_succ, ← HKK.out, ← List.append_assoc]; exact HLS.out, by have := HLN.out; omega⟩
          case measure => simp [intOf]; omega
    · have hmL : m = L := by omega
      subst hmL
      go_wp2
      go_ret
      have hls := HLS.out
      have hO := HO.out
      rw [hls] at hO
      have hP : [zs] ++ prs zs m = (zs :: prs zs zs.length) := by rw [HL.out]; first | rfl | simp
      rw [hP] at hO
      exact ⟨.slice T n tc, _, _, rfl, HW.out.trans (hO.bel.mono HW.out.size), fun S w2 hS ht => hO.survive (fun b hb => ⟨by have := (hS b hb).1; simp; omega, (hS b hb).2⟩) ht⟩

end Go.Proofs.Ytiomocmceccmbaa.Cn

