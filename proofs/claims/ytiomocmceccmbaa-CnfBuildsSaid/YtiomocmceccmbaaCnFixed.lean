/- Clauses; New, One; the chapter's example. -/
import Derived.Test.YtiomocmceccmbaaCnGrid
namespace Go.Proofs.Ytiomocmceccmbaa.Cn
open Go.RowKit

theorem clone_row (w : World) (base : Nat) (v : Value) (zs : List Int) (h : Row w base v zs) (hl : zs.length ≤ 100000) :
    Calls Try.prog 29 #[v] w fun e w' => ∃ A L c, e = .returned (.slice A L c) ∧ Row w' w.heap.size (.slice A L c) zs ∧ Below w.heap.size w w' := by
  refine (clone_any w base v zs h hl).mono ?_
  rintro e w' ⟨A, c, rfl, h1, h2, hb, h3⟩
  refine ⟨A, zs.length, c, rfl, ⟨A, c, rfl, h1, h2, h3.imp id fun ⟨g, ha, hg1, hg2, hc⟩ => ⟨g, 0, ha, hg1, hg2, fun j hj => (hc j hj).1⟩, h.bounds⟩, hb⟩

theorem make_slices (n : Nat) (hn : n ≤ 400000) (W : World) : ∃ cur : Array Value, cur.size = n ∧ (Instr.makeSlice 29 (.int .i64 0) (.int .i64 (n : Int))).run Try.prog W = .ok (.slice (some ⟨W.heap.size, 0, none⟩) 0 n) (W.alloc (.cells cur 22)) := by
  obtain ⟨i0, hi0, hz0, hz1, hz2⟩ := info_parts slice_info
  refine ⟨madeCells (Value.slice none 0 0).cells n, ?_, ?_⟩
  · have := toList_madeCells_one (.slice none 0 0) n
    have h2 : (madeCells (Value.slice none 0 0).cells n).toList.length = n := by rw [show (Value.slice none 0 0).cells = #[.slice none 0 0] from rfl, this]; simp
    simpa using h2
  · rw [run_make (P := Try.prog) W 29 22 i0 _ Try.underlying29 hi0 hz0 .i64 .i64 0 n (by omega) (by omega) (by rw [hz2]; omega) (by omega), hz1]
    simp

theorem own_at {w : World} {base n k : Nat} {e : TypeId} {v u : Value} {xs : List Value} (h : w.ownsRow base e 1 v n xs) (hu : xs[k]? = some u) : ∃ g c, v = .slice (some ⟨g, 0, none⟩) n c ∧ w.cell? ⟨g, k, none⟩ = some u := by
  have hk : k < xs.length := (List.getElem?_eq_some_iff.1 hu).1
  have hl := h.1
  obtain ⟨g, c, e1, _⟩ := h.form (by omega)
  subst e1
  obtain ⟨g', c', e2, _, _, _, _, hc⟩ := own_cells h (by simp)
  injection e2 with e2 _ e3
  injection e2 with e2
  injection e2 with e2
  subst e2
  exact ⟨g, c, rfl, (hc k u hu).1⟩

/-- What is put together of the clauses by now. -/
structure Outs (w0 wr : World) (ls : List (List Int)) (k : Nat) (v : Value) (us : List Value) : Prop where
  own : wr.ownsRow w0.heap.size 22 1 v k us
  rows : RowsOf wr w0.heap.size (fun b => v.ownBlock = some b) us (ls.take k)
  bel : Below w0.heap.size w0 wr

theorem Outs.next {w0 wr w1 w2 : World} {ls : List (List Int)} {k g cap cp : Nat} {A : Option Addr} {u : Value} {us : List Value} (h : Outs w0 wr ls k (.slice A k cp) us) (hk : k < ls.length) (hb : Below wr.heap.size wr w1) (hr : Row w1 wr.heap.size u (nthL ls k)) {X : Obj}
    (ho : w2.ownsRow w0.heap.size 22 1 (.slice (some ⟨g, 0, none⟩) (k + 1) cap) (k + 1) (us ++ [u])) (hg : (w1.alloc X).grownBy w2 (Value.slice A k cp).ownBlock) (hat : (Value.slice A k cp).ownBlock = some g ∨ g = (w1.alloc X).heap.size) :
    Outs w0 w2 ls (k + 1) (.slice (some ⟨g, 0, none⟩) (k + 1) cap) (us ++ [u]) := by
  have hbel := h.bel
  have htk : ls.take (k + 1) = ls.take k ++ [nthL ls k] := by
    rw [List.take_succ_eq_append_getElem hk]; congr 2; unfold nthL; simp [List.getD_eq_getElem?_getD, hk]
  have hsz1 := hb.size
  have hrow1 := (h.rows.below hb).snoc (hr.base hbel.size) (fun hne b hb' hF => by
    have h1 := (hr.block hne b hb').1
    have h2 := (h.own.lt b hF).2; omega)
  have ht : Touch w1 w2 (fun b => (Value.slice A k cp).ownBlock = some b) := ((Touch.refl w1 _).alloc X).trans (Touch.of_grown (S := fun b => (Value.slice A k cp).ownBlock = some b) hg (fun i e => e)) (fun _ _ h => h)
  have hrow2 := hrow1.touch ht (fun _ h => h)
  rw [← htk] at hrow2
  refine ⟨ho, ⟨hrow2.1, fun j u' z hu hz => ?_⟩, ?_⟩
  · obtain ⟨r1, r2⟩ := hrow2.2 j u' z hu hz
    refine ⟨r1, fun hne b hb' hG => ?_⟩
    rcases hat with e | e
    · exact r2 hne b hb' (by rw [e]; simpa [Value.ownBlock] using hG)
    · rw [← htk] at hrow1
      have h3 := (hrow1.2 j u' z hu hz).1.block hne b hb'
      simp [Value.ownBlock] at hG
      simp at e
      omega
  · exact Touch.belows (hbel.trans (hb.mono hbel.size)) ht (Nat.le_refl _) (fun i hi => (h.own.lt i hi).1)

theorem Outs.grid {w0 wr : World} {ls : List (List Int)} {v : Value} {us : List Value} (h : Outs w0 wr ls ls.length v us) (hm : ls.length ≤ 400000) : Grid wr v ls := by
  have hrows := h.rows
  rw [List.take_length] at hrows
  have hro : RowsOf wr 0 (fun _ => False) us ls := ⟨hrows.1, fun j u z hu hz => ⟨(hrows.2 j u z hu hz).1.base (Nat.zero_le _), fun _ _ _ h => h⟩⟩
  by_cases hv : v = .slice none 0 0
  · have h0 : ls.length = 0 := by
      rcases own_len h.own with ⟨_, h0⟩ | ⟨g, c, e⟩
      · exact h0
      · rw [hv] at e; cases e
    have hls : ls = [] := List.eq_nil_of_length_eq_zero h0
    subst hls
    exact ⟨none, 0, us, hv, by simp, by simp [maxLen], .inl rfl, hro⟩
  · obtain ⟨g, c, rfl, h1, h2, _, h4, h5⟩ := own_cells h.own hv
    exact ⟨some ⟨g, 0, none⟩, c, us, rfl, h1, h2, .inr ⟨g, 0, rfl, h4, fun j u hu => by rw [Nat.zero_add]; exact (h5 j u hu).1⟩, hro⟩

set_option maxRecDepth 100000 in
set_option maxHeartbeats 3200000 in
theorem clauses_any (w : World) (base B : Nat) (v : Value) (vs : List Value) (ls : List (List Int)) (bad full : Bool) (h : Bld w base B v vs ls bad full) (hl : ∀ z ∈ ls, z.length ≤ 100000) :
    Calls Try.prog 25 #[.pointer (some ⟨B, 0, none⟩)] w fun e w' => ∃ u, e = .returned u ∧ Grid w' u ls ∧ Below w.heap.size w w' := by
  have HB := Lib.hid h
  have HL := Lib.hid hl
  obtain ⟨n, hn⟩ : ∃ n, vs.length = n := ⟨_, rfl⟩
  obtain ⟨A, cp, hv⟩ : ∃ A cp, v = .slice A n cp := by
    rcases own_len h.own with ⟨e, h0⟩ | ⟨g, cap, e⟩
    · exact ⟨none, 0, by rw [← hn, h0]; exact e⟩
    · exact ⟨_, _, by rw [← hn]; exact e⟩
  subst hv
  have hnl : ls.length = n := h.rows.1.trans hn
  have hfew := h.few
  have hown : w.ownsRow base 22 1 (.slice A n cp) n vs := by have := h.own; rwa [hn] at this
  have HO := Lib.hid hown
  have HN := Lib.hid hn
  have HNL := Lib.hid hnl
  have HF := Lib.hid (show n ≤ 300000 by omega)
  have b0 := cells_get h.head 0 (v := .slice A n cp) rfl
  obtain ⟨cur, hcs, mk⟩ := make_slices n (by omega) w
  have hM0 : Outs w (w.alloc (.cells cur 22)) ls 0 (.slice (some ⟨w.heap.size, 0, none⟩) 0 n) [] := by
    refine ⟨World.ownsRow_made w cur n (Nat.le_refl _) (by have := HF.out; unfold maxLen; omega) (by simpa using hcs), ⟨by simp, fun j u z hu hz => by simp at hu⟩, (Below.refl _ _).alloc (Nat.le_refl _) _⟩
  have HM := Lib.hid hM0
  have b1 := cells_get (heap_below h.head ((Below.refl _ _).alloc (Nat.le_refl _) (.cells cur 22))) 0 (v := .slice A n cp) rfl
  have i1 : n ≤ 9223372036854775807 := by omega
  clear h hn hnl hown hcs hM0 hl hfew
  go_enter Try.func25, Try.ntmps25
  go_wp2
  clear mk b0 b1
  go_loopw [19, 3] (fun i o wr => ∃ (k : Nat) (A' : Option Addr) (c' : Nat) (us : List Value), i = .int .i64 (k : Int) ∧ o = .slice A' k c' ∧ k ≤ n ∧ Outs w wr ls k (.slice A' k c') us) (fun i _ _ => n - (intOf i).toNat)
  case atStart => exact ⟨0, _, _, _, rfl, rfl, by omega, HM.out⟩
  case round =>
    clear HM
    obtain ⟨k, A', c', us, rfl, rfl, hk, hO⟩ := hrel
    have HOu := Lib.hid hO
    clear hO
    by_cases hkn : k < n
    · have hkv : k < vs.length := by rw [HN.out]; exact hkn
      have hkl : k < ls.length := by rw [HNL.out]; exact hkn
      have r1 := (HB.out.rows.2 k _ _ (List.getElem?_eq_getElem hkv) (nthL_get hkl)).1
      obtain ⟨g0, c0, hA, hcell⟩ := own_at HO.out (List.getElem?_eq_getElem hkv)
      injection hA with hA _ hc0
      subst hA
      obtain ⟨A1, L1, cc1, e1, re⟩ := r1.open'
      clear re
      rw [e1] at r1 hcell
      have hg0 := (HO.out.lt g0 rfl).2
      have cc := (HOu.out.bel.cell (p := ⟨g0, k, none⟩) hg0).trans hcell
      have HR1 := Lib.hid (r1.belows HOu.out.bel (Nat.le_refl _))
      have HLZ := Lib.hid (HL.out _ (List.mem_of_getElem? (nthL_get hkl)))
      have HKL := Lib.hid hkl
      have HKN := Lib.hid (show k ≤ 400000 by have := HF.out; omega)
      clear r1 hcell e1 hkv hkl hc0
      go_wp2_with fail
      refine (clone_row _ _ _ _ HR1.out HLZ.out).mono ?_
      rintro e w1 ⟨A2, L2, c2, rfl, hr2, hb2⟩
      have HR2 := Lib.hid hr2
      have HB2 := Lib.hid hb2
      have hs2 : w.heap.size ≤ (w1.alloc (.cells #[.slice A2 L2 c2] 22)).heap.size := by have h1 := HOu.out.bel.size; have h2 := hb2.size; simp; omega
      have HO2 := Lib.hid (own_touch HOu.out.own (Touch.of_below (S := fun _ => False) hb2) (fun _ _ h => h))
      clear hr2 hb2 cc
      go_wp2_with (at_builtin; refine app_slice (W := w1.alloc (.cells #[.slice A2 L2 c2] 22)) (base := w.heap.size) (xs := us) (.tmp 23) (.tmp 26) rfl rfl rfl (HO2.out.alloc _) rfl (heap_alloc_new w1 _) HKN.out hs2 ?_; intro gg cap w3 hown3 hgrow3 hat3 hlt3; have HN3 := Lib.hid (HOu.out.next HKL.out HB2.out HR2.out hown3 hgrow3 hat3); clear hown3 hgrow3 hat3)
      go_roundw
      case rel => exact ⟨k + 1, _, _, _, by first | rfl | go_num, by first | rfl | go_num, by omega, HN3.out⟩
      case measure => simp [intOf]; omega
    · have hkN : k = n := by omega
      subst hkN
      go_wp2
      go_ret
      have hO := HOu.out
      have hkl : k = ls.length := HNL.out.symm
      rw [hkl] at hO ⊢
      exact ⟨_, rfl, hO.grid (by have := HF.out; have := HNL.out; omega), HOu.out.bel⟩

def OnePost (w : World) (base B : Nat) (v : Value) (ls : List (List Int)) (bad : Bool) (zs : List Int) (e : Ending) (w' : World) : Prop :=
  e = .returned (.tuple #[]) ∧ ∃ v' vs' ls' bad', Adds (zs :: pairs zs zs.length) ls bad ls' bad' ∧ Bld w' base B v' vs' ls' bad' false ∧ ls'.length ≤ ls.length + 201 ∧ Touch w w' (fun b => b = B ∨ v.ownBlock = some b)

theorem one_any (w : World) (base B : Nat) (v a : Value) (ba : Nat) (zs : List Int) (vs : List Value) (ls : List (List Int)) (bad : Bool) (h : Side w v w base B a ba zs v vs ls bad) (hbase : base ≤ w.heap.size) (hz : zs.length ≤ 12) (hl : ls.length ≤ 50000)
    (hlit : ∀ x ∈ zs, x ≠ -9223372036854775808) :
    Calls Try.prog 17 #[.pointer (some ⟨B, 0, none⟩), a] w (OnePost w base B v ls bad zs) := by
  have HS := Lib.hid h
  have HZ := Lib.hid hz
  have HL := Lib.hid hl
  have HT := Lib.hid hlit
  clear h hz hl hlit
  go_enter Try.func17, Try.ntmps17
  go_wp2_with fail
  refine (add_any w base B v vs ls bad false HS.out.bld hbase _ _ zs HS.out.row (by have := HZ.out; omega)).mono ?_
  intro e w1 hp
  obtain ⟨rfl, v1, vs1, ls1, bad1, hs1, hside1⟩ := HS.out.add hp (by have := HL.out; unfold maxC; omega)
  have HS1 := Lib.hid hside1
  have HA1 := Lib.hid hs1
  clear hp hside1 hs1
  go_wp2_with fail
  have hside2 : Side w1 v1 w1 base B a ba zs v1 vs1 ls1 bad1 := ⟨HS1.out.bld, HS1.out.row, HS1.out.apart, Touch.refl _ _, .inl rfl⟩
  refine (most_any w1 base B v1 a ba zs vs1 ls1 bad1 hside2 (Nat.le_trans hbase HS1.out.touch.size) HZ.out (by have := HL.out; have := HA1.out.len; omega) HT.out).mono ?_
  rintro e w2 ⟨rfl, v2, vs2, ls2, bad2, hs2, hside3, hlen⟩
  have HS2 := Lib.hid hs2
  have HS3 := Lib.hid hside3
  have HLN := Lib.hid hlen
  clear hs2 hside2 hside3 hlen
  go_wp2
  go_end0
  refine ⟨rfl, v2, vs2, ls2, bad2, ⟨ls1, bad1, HA1.out, HS2.out⟩, HS3.out.bld, by have := HLN.out; have := HA1.out.len; omega, HS1.out.touch.trans HS3.out.touch (fun i hi hh => ?_)⟩
  rcases hh with hh | hh
  · exact .inl hh
  · rcases HS1.out.own with e | ⟨g, e, hg⟩
    · exact .inr (e ▸ hh)
    · rw [e] at hh; injection hh with hh; subst hh; omega

theorem good_12 : Good [1, 2] [1, 2] := ⟨by simp [IsLit], by simp, fun _ => Iff.rfl, by simp⟩
theorem good_n12 : Good [-1, -2] [-1, -2] := ⟨by simp [IsLit], by simp, fun _ => Iff.rfl, by simp⟩
theorem ex_adds {ls : List (List Int)} {bad : Bool} (h : Adds ([1, 2] :: pairs [1, 2] ([1, 2] : List Int).length) [] false ls bad) : ls = [[1, 2], [-1, -2]] := by
  have e : pairs [1, 2] ([1, 2] : List Int).length = [[-1, -2]] := rfl
  rw [e] at h
  obtain ⟨m, b, h1, m2, b2, h2, h3, _⟩ := h
  subst h3
  rcases h1 with ⟨hb, _⟩ | ⟨f, hf, rfl, _⟩
  · exact absurd hb good_12.not
  rcases h2 with ⟨hb, _⟩ | ⟨g, hg, rfl, _⟩
  · exact absurd hb good_n12.not
  rw [good_unique hf good_12 (fun _ => Iff.rfl), good_unique hg good_n12 (fun _ => Iff.rfl)]
  rfl

theorem new_any (w : World) : Calls Try.prog 13 #[] w fun e w' => e = .returned (.pointer (some ⟨w.heap.size, 0, none⟩)) ∧ w' = w.alloc (.cells #[.slice none 0 0, .bool false, .bool false] 57) := by
  go_enter Try.func13, Try.ntmps13
  go_wp2
  go_ret
  exact ⟨rfl, rfl⟩

theorem bld_new (w : World) : Bld (w.alloc (.cells #[.slice none 0 0, .bool false, .bool false] 57)) w.heap.size w.heap.size (.slice none 0 0) [] [] false false :=
  ⟨heap_alloc_new w _, World.ownsRow_nil _ _ _ _, ⟨rfl, fun j u z hu => by simp at hu⟩, Nat.le_refl _, by simp⟩

/-- Two rows of two that lie in memory. -/
theorem grid_two (w : World) (a b c d : Int) (ha : -9223372036854775808 ≤ a ∧ a ≤ 9223372036854775807) (hb : -9223372036854775808 ≤ b ∧ b ≤ 9223372036854775807) (hc : -9223372036854775808 ≤ c ∧ c ≤ 9223372036854775807) (hd : -9223372036854775808 ≤ d ∧ d ≤ 9223372036854775807) :
    Grid (((w.alloc (.cells #[.int .i64 a, .int .i64 b] 3)).alloc (.cells #[.int .i64 c, .int .i64 d] 3)).alloc (.cells #[.slice (some ⟨w.heap.size, 0, none⟩) 2 2, .slice (some ⟨w.heap.size + 1, 0, none⟩) 2 2] 22)) (.slice (some ⟨w.heap.size + 2, 0, none⟩) 2 2) [[a, b], [c, d]] := by
  have r1 := row_pair w a b ha hb
  have r2 := row_pair (w.alloc (.cells #[.int .i64 a, .int .i64 b] 3)) c d hc hd
  rw [show (w.alloc (.cells #[.int .i64 a, .int .i64 b] 3)).heap.size = w.heap.size + 1 by simp] at r2
  have q1 := (r1.below ((Below.refl _ _).alloc (Nat.le_refl _) (.cells #[.int .i64 c, .int .i64 d] 3)))
  have h3 := heap_alloc_new ((w.alloc (.cells #[.int .i64 a, .int .i64 b] 3)).alloc (.cells #[.int .i64 c, .int .i64 d] 3)) (.cells #[.slice (some ⟨w.heap.size, 0, none⟩) 2 2, .slice (some ⟨w.heap.size + 1, 0, none⟩) 2 2] 22)
  have hsz : ((w.alloc (.cells #[.int .i64 a, .int .i64 b] 3)).alloc (.cells #[.int .i64 c, .int .i64 d] 3)).heap.size = w.heap.size + 2 := by simp
  have q2 := q1.below ((Below.refl _ _).alloc (Nat.le_refl _) (.cells #[.slice (some ⟨w.heap.size, 0, none⟩) 2 2, .slice (some ⟨w.heap.size + 1, 0, none⟩) 2 2] 22))
  have q3 := r2.below ((Below.refl _ _).alloc (Nat.le_refl _) (.cells #[.slice (some ⟨w.heap.size, 0, none⟩) 2 2, .slice (some ⟨w.heap.size + 1, 0, none⟩) 2 2] 22))
  rw [hsz] at h3
  refine ⟨_, 2, [.slice (some ⟨w.heap.size, 0, none⟩) 2 2, .slice (some ⟨w.heap.size + 1, 0, none⟩) 2 2], rfl, by simp, by simp [maxLen], .inr ⟨w.heap.size + 2, 0, rfl, by simp, fun j u hu => ?_⟩, rfl, fun j u z hu hz => ?_⟩
  · rw [Nat.zero_add]; exact cells_get h3 j (by simpa using hu)
  · match j, hu, hz with
    | 0, hu, hz => simp at hu hz; subst hu; subst hz; exact ⟨q2.base (Nat.zero_le _), fun _ _ _ h => h⟩
    | 1, hu, hz => simp at hu hz; subst hu; subst hz; exact ⟨q3.base (Nat.zero_le _), fun _ _ _ h => h⟩

set_option maxHeartbeats 1600000 in
theorem fixed_any (w : World) : Calls Try.prog 7 #[] w fun e w' => e = .returned (.bool true) ∧ Below w.heap.size w w' := by
  have hs0 : Side ((w.alloc (.cells #[.slice none 0 0, .bool false, .bool false] 57)).alloc (.cells #[.int .i64 1, .int .i64 2] 3)) (.slice none 0 0) ((w.alloc (.cells #[.slice none 0 0, .bool false, .bool false] 57)).alloc (.cells #[.int .i64 1, .int .i64 2] 3)) w.heap.size w.heap.size (.slice (some ⟨w.heap.size + 1, 0, none⟩) 2 2) 0 [1, 2] (.slice none 0 0) [] [] false := by
    have r := row_pair (w.alloc (.cells #[.slice none 0 0, .bool false, .bool false] 57)) 1 2 (by omega) (by omega)
    rw [show (w.alloc (.cells #[.slice none 0 0, .bool false, .bool false] 57)).heap.size = w.heap.size + 1 by simp] at r
    exact ⟨(bld_new w).below ((Below.refl _ _).alloc (Nat.le_refl _) _), r.base (Nat.zero_le _), fun _ b hb => by simp [Value.ownBlock] at hb ⊢; omega, Touch.refl _ _, .inl rfl⟩
  have HS := Lib.hid hs0
  clear hs0
  go_enter Try.func7, Try.ntmps7
  go_wp2_with fail
  refine (new_any w).mono ?_
  rintro e w1 ⟨rfl, rfl⟩
  go_wp2_with fail
  refine (one_any _ w.heap.size w.heap.size _ _ 0 [1, 2] [] [] false HS.out (by simp; omega) (by simp) (by simp) (by simp)).mono ?_
  rintro e w2 ⟨rfl, v', vs', ls', bad', hadds, hb, _, ht⟩
  have hls := ex_adds hadds
  subst hls
  have HB := Lib.hid hb
  have HT := Lib.hid ht
  clear hadds hb ht
  have HB0 : Hid (Below w.heap.size w w2) := Lib.hid (Touch.belows (((Below.refl _ _).alloc (Nat.le_refl _) _).alloc (by simp) _) HT.out (Nat.le_refl _) (fun i hi => by
    rcases hi with hi | hi
    · omega
    · simp [Value.ownBlock] at hi))
  go_wp2_with fail
  refine (clauses_any w2 _ _ _ _ _ _ _ HB.out (fun z hz => by simp at hz; rcases hz with rfl | rfl <;> simp)).mono ?_
  rintro e w3 ⟨u, rfl, hg, hb3⟩
  have HG := Lib.hid hg
  have HB3 := Lib.hid (HB0.out.trans (hb3.mono HB0.out.size))
  clear hg hb3
  go_wp2_with fail
  have hbw : Below w3.heap.size w3 (((w3.alloc (.cells #[.int .i64 1, .int .i64 2] 3)).alloc (.cells #[.int .i64 (-1), .int .i64 (-2)] 3)).alloc (.cells #[.slice (some ⟨w3.heap.size, 0, none⟩) 2 2, .slice (some ⟨w3.heap.size + 1, 0, none⟩) 2 2] 22)) := (((Below.refl _ _).alloc (Nat.le_refl _) _).alloc (by simp) _).alloc (by simp; omega) _
  refine (sameAll_any _ _ _ [[1, 2], [-1, -2]] [[1, 2], [-1, -2]] (HG.out.below hbw) (grid_two w3 1 2 (-1) (-2) (by omega) (by omega) (by omega) (by omega))).mono ?_
  rintro e w4 ⟨rfl, q, rfl⟩
  go_wp2
  go_ret
  exact ⟨by simp, below_draws (HB3.out.trans (hbw.mono HB3.out.size)) q⟩

end Go.Proofs.Ytiomocmceccmbaa.Cn
