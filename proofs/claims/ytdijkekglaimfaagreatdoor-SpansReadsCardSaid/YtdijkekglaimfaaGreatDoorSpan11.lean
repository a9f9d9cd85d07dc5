/- span.Meet. -/
import Derived.Test.YtdijkekglaimfaaGreatDoorSpan9
namespace Go.Proofs.YtdijkekglaimfaaGreatDoor.Ver
open Go.RowKit

theorem Pair.other {w : World} {n m : Nat} {lo hi : ByteArray} (p : Pair w n lo hi) (h : n ≠ m) (f : Nat) (v : Value) : Pair (w.setCell ⟨m, f, none⟩ v) n lo hi := by
  have hh := Below.heap_setCell w ⟨m, f, none⟩ v n h
  have hc : ∀ j, (w.setCell ⟨m, f, none⟩ v).cell? ⟨n, j, none⟩ = w.cell? ⟨n, j, none⟩ := fun j => World.cell?_of_block (w := w) hh
  have hf : ∀ j, (w.setCell ⟨m, f, none⟩ v).frozen? ⟨n, j, none⟩ = w.frozen? ⟨n, j, none⟩ := fun j => World.frozen?_of_block (w := w) hh
  exact ⟨(hc 0).trans p.1, (hc 1).trans p.2.1, (hf 0).trans p.2.2.1, (hf 1).trans p.2.2.2⟩
theorem Pair.set0 {w : World} {n : Nat} {lo hi : ByteArray} (p : Pair w n lo hi) (x : ByteArray) : Pair (w.setCell ⟨n, 0, none⟩ (.string x)) n x hi :=
  ⟨World.cell?_setCell_same' _ _ _ (by rw [p.1]; rfl), (World.cell?_setCell_other (a := ⟨n, 0, none⟩) (b := ⟨n, 1, none⟩) w (.string x) (by simp)).trans p.2.1, by rw [World.frozen?_setCell]; exact p.2.2.1, by rw [World.frozen?_setCell]; exact p.2.2.2⟩
theorem Pair.set1 {w : World} {n : Nat} {lo hi : ByteArray} (p : Pair w n lo hi) (x : ByteArray) : Pair (w.setCell ⟨n, 1, none⟩ (.string x)) n lo x :=
  ⟨(World.cell?_setCell_other (a := ⟨n, 1, none⟩) (b := ⟨n, 0, none⟩) w (.string x) (by simp)).trans p.1, World.cell?_setCell_same' _ _ _ (by rw [p.2.1]; rfl), by rw [World.frozen?_setCell]; exact p.2.2.1, by rw [World.frozen?_setCell]; exact p.2.2.2⟩

theorem three_new (w : World) (alo ahi blo bhi : ByteArray) (T : TypeId) :
    Below w.heap.size w (((w.alloc (.cells #[.string alo, .string ahi] T)).alloc (.cells #[.string blo, .string bhi] T)).alloc (.cells #[.string ⟨#[]⟩, .string ⟨#[]⟩] T)) ∧
    Pair (((w.alloc (.cells #[.string alo, .string ahi] T)).alloc (.cells #[.string blo, .string bhi] T)).alloc (.cells #[.string ⟨#[]⟩, .string ⟨#[]⟩] T)) w.heap.size alo ahi ∧
    Pair (((w.alloc (.cells #[.string alo, .string ahi] T)).alloc (.cells #[.string blo, .string bhi] T)).alloc (.cells #[.string ⟨#[]⟩, .string ⟨#[]⟩] T)) (w.heap.size + 1) blo bhi ∧
    Pair (((w.alloc (.cells #[.string alo, .string ahi] T)).alloc (.cells #[.string blo, .string bhi] T)).alloc (.cells #[.string ⟨#[]⟩, .string ⟨#[]⟩] T)) (w.heap.size + 2) ⟨#[]⟩ ⟨#[]⟩ := by
  obtain ⟨h1, p1, p2⟩ := two_new w alo ahi blo bhi T
  have h2 := below_new ((w.alloc (.cells #[.string alo, .string ahi] T)).alloc (.cells #[.string blo, .string bhi] T)) (.cells #[.string ⟨#[]⟩, .string ⟨#[]⟩] T)
  have p3 := pair_new ((w.alloc (.cells #[.string alo, .string ahi] T)).alloc (.cells #[.string blo, .string bhi] T)) ⟨#[]⟩ ⟨#[]⟩ T
  have e : ((w.alloc (.cells #[.string alo, .string ahi] T)).alloc (.cells #[.string blo, .string bhi] T)).heap.size = w.heap.size + 2 := by simp
  rw [e] at p3
  exact ⟨h1.trans (h2.mono h1.size), p1.below h2, p2.below h2, p3⟩

/-- What two spans have in common. -/
def mlo (alo blo : ByteArray) : ByteArray := if lowR alo.data.toList blo.data.toList = true then blo else alo
def mhi (ahi bhi : ByteArray) : ByteArray := if highR ahi.data.toList bhi.data.toList = true then bhi else ahi
def smeet (alo ahi blo bhi : ByteArray) : ByteArray × ByteArray × Bool :=
  if (smay alo.data.toList ahi.data.toList && smay blo.data.toList bhi.data.toList && smay (mlo alo blo).data.toList (mhi ahi bhi).data.toList) = true
  then (mlo alo blo, mhi ahi bhi, true) else (⟨#[]⟩, ⟨#[]⟩, false)

set_option maxHeartbeats 4000000 in
theorem meet_is (alo ahi blo bhi lo hi : ByteArray) (b : Bool) (h : smeet alo ahi blo bhi = (lo, hi, b)) (w : World) :
    Calls Tryz.prog 39 #[.agg #[.string alo, .string ahi], .agg #[.string blo, .string bhi]] w fun e w' => e = .returned (.tuple #[.agg #[.string lo, .string hi], .bool b]) ∧ Below w.heap.size w w' := by
  obtain ⟨hb0, p0_0, p1_0, p2_0⟩ := three_new w alo ahi blo bhi 31
  cases ha : smay alo.data.toList ahi.data.toList with
  | false =>
    have h : ((⟨#[]⟩ : ByteArray), (⟨#[]⟩ : ByteArray), false) = (lo, hi, b) := by rw [← h]; unfold smeet; rw [ha]; rfl
    injection h with h1 h2; injection h2 with h2 h3; subst h1; subst h2; subst h3
    have Ha := Lib.hid ha
    clear ha
    go_enter Tryz.func39, Tryz.ntmps39
    go_wp2_with fail
    refine (spanMay_is alo ahi _ Ha.out _).mono ?_
    rintro e w1 ⟨rfl, h1⟩
    have hb1 := hb0.trans (h1.mono hb0.size)
    have p0_1 := p0_0.below h1
    have c0_1 := p0_1.1
    have d0_1 := p0_1.2.1
    have f0_1 := p0_1.2.2.1
    have g0_1 := p0_1.2.2.2
    have p1_1 := p1_0.below h1
    have c1_1 := p1_1.1
    have d1_1 := p1_1.2.1
    have f1_1 := p1_1.2.2.1
    have g1_1 := p1_1.2.2.2
    have p2_1 := p2_0.below h1
    have c2_1 := p2_1.1
    have d2_1 := p2_1.2.1
    have f2_1 := p2_1.2.2.1
    have g2_1 := p2_1.2.2.2
    go_wp2
    refine bodyPost_ret (v := .tuple #[.agg #[.string (⟨#[]⟩), .string (⟨#[]⟩)], .bool false]) (by simp [results, Tryz.results39, go_sem, c2_1, d2_1, World.cell?_setCell_same']) rfl ⟨rfl, (hb1.setCell (p := ⟨w.heap.size + 2, 0, none⟩) (Nat.le_add_right _ _) _).setCell (p := ⟨w.heap.size + 2, 1, none⟩) (Nat.le_add_right _ _) _⟩
  | true =>
  cases hb : smay blo.data.toList bhi.data.toList with
  | false =>
    have h : ((⟨#[]⟩ : ByteArray), (⟨#[]⟩ : ByteArray), false) = (lo, hi, b) := by rw [← h]; unfold smeet; rw [ha, hb]; rfl
    injection h with h1 h2; injection h2 with h2 h3; subst h1; subst h2; subst h3
    have Ha := Lib.hid ha
    have Hb := Lib.hid hb
    clear ha hb
    go_enter Tryz.func39, Tryz.ntmps39
    go_wp2_with fail
    refine (spanMay_is alo ahi _ Ha.out _).mono ?_
    rintro e w1 ⟨rfl, h1⟩
    have hb1 := hb0.trans (h1.mono hb0.size)
    have p0_1 := p0_0.below h1
    have c0_1 := p0_1.1
    have d0_1 := p0_1.2.1
    have f0_1 := p0_1.2.2.1
    have g0_1 := p0_1.2.2.2
    have p1_1 := p1_0.below h1
    have c1_1 := p1_1.1
    have d1_1 := p1_1.2.1
    have f1_1 := p1_1.2.2.1
    have g1_1 := p1_1.2.2.2
    have p2_1 := p2_0.below h1
    have c2_1 := p2_1.1
    have d2_1 := p2_1.2.1
    have f2_1 := p2_1.2.2.1
    have g2_1 := p2_1.2.2.2
    go_wp2_with fail
    refine (spanMay_is blo bhi _ Hb.out _).mono ?_
    rintro e w2 ⟨rfl, h2⟩
    have hb2 := hb1.trans (h2.mono hb1.size)
    have p0_2 := p0_1.below h2
    have c0_2 := p0_2.1
    have d0_2 := p0_2.2.1
    have f0_2 := p0_2.2.2.1
    have g0_2 := p0_2.2.2.2
    have p1_2 := p1_1.below h2
    have c1_2 := p1_2.1
    have d1_2 := p1_2.2.1
    have f1_2 := p1_2.2.2.1
    have g1_2 := p1_2.2.2.2
    have p2_2 := p2_1.below h2
    have c2_2 := p2_2.1
    have d2_2 := p2_2.2.1
    have f2_2 := p2_2.2.2.1
    have g2_2 := p2_2.2.2.2
    go_wp2
    refine bodyPost_ret (v := .tuple #[.agg #[.string (⟨#[]⟩), .string (⟨#[]⟩)], .bool false]) (by simp [results, Tryz.results39, go_sem, c2_2, d2_2, World.cell?_setCell_same']) rfl ⟨rfl, (hb2.setCell (p := ⟨w.heap.size + 2, 0, none⟩) (Nat.le_add_right _ _) _).setCell (p := ⟨w.heap.size + 2, 1, none⟩) (Nat.le_add_right _ _) _⟩
  | true =>
  have hm : (if smay (mlo alo blo).data.toList (mhi ahi bhi).data.toList = true then (mlo alo blo, mhi ahi bhi, true) else ((⟨#[]⟩ : ByteArray), (⟨#[]⟩ : ByteArray), false)) = (lo, hi, b) := by
    rw [← h]; unfold smeet; rw [ha, hb]; rfl
  have Ha := Lib.hid ha
  have Hb := Lib.hid hb
  clear ha hb h
  cases hl : lowR alo.data.toList blo.data.toList with
  | false =>
    have el : mlo alo blo = alo := by unfold mlo; rw [hl]; rfl
    cases hh : highR ahi.data.toList bhi.data.toList with
    | false =>
      have eh : mhi ahi bhi = ahi := by unfold mhi; rw [hh]; rfl
      rw [el, eh] at hm
      have HL := Lib.hid hl
      have HH := Lib.hid hh
      clear hl hh el eh
      cases hs : smay alo.data.toList ahi.data.toList with
      | false =>
        rw [hs] at hm
        rw [if_neg (by simp)] at hm
        injection hm with h1 h2; injection h2 with h2 h3; subst h1; subst h2; subst h3
        have HS := Lib.hid hs
        clear hs
        go_enter Tryz.func39, Tryz.ntmps39
        go_wp2_with fail
        refine (spanMay_is alo ahi _ Ha.out _).mono ?_
        rintro e w1 ⟨rfl, h1⟩
        have hb1 := hb0.trans (h1.mono hb0.size)
        have p0_1 := p0_0.below h1
        have c0_1 := p0_1.1
        have d0_1 := p0_1.2.1
        have f0_1 := p0_1.2.2.1
        have g0_1 := p0_1.2.2.2
        have p1_1 := p1_0.below h1
        have c1_1 := p1_1.1
        have d1_1 := p1_1.2.1
        have f1_1 := p1_1.2.2.1
        have g1_1 := p1_1.2.2.2
        have p2_1 := p2_0.below h1
        have c2_1 := p2_1.1
        have d2_1 := p2_1.2.1
        have f2_1 := p2_1.2.2.1
        have g2_1 := p2_1.2.2.2
        go_wp2_with fail
        refine (spanMay_is blo bhi _ Hb.out _).mono ?_
        rintro e w2 ⟨rfl, h2⟩
        have hb2 := hb1.trans (h2.mono hb1.size)
        have p0_2 := p0_1.below h2
        have c0_2 := p0_2.1
        have d0_2 := p0_2.2.1
        have f0_2 := p0_2.2.2.1
        have g0_2 := p0_2.2.2.2
        have p1_2 := p1_1.below h2
        have c1_2 := p1_2.1
        have d1_2 := p1_2.2.1
        have f1_2 := p1_2.2.2.1
        have g1_2 := p1_2.2.2.2
        have p2_2 := p2_1.below h2
        have c2_2 := p2_2.1
        have d2_2 := p2_2.2.1
        have f2_2 := p2_2.2.2.1
        have g2_2 := p2_2.2.2.2
        have lt0 := World.block_lt_of_cell? _ _ p0_2.1
        have lt1 := World.block_lt_of_cell? _ _ p1_2.1
        have lt2 := World.block_lt_of_cell? _ _ p2_2.1
        have le3 := hb2.size
        have hb2 := hb2.alloc hb2.size (.cells #[.string (alo), .string (ahi)] 31)
        have p0_2 := p0_2.below (below_new _ (.cells #[.string (alo), .string (ahi)] 31))
        have p1_2 := p1_2.below (below_new _ (.cells #[.string (alo), .string (ahi)] 31))
        have p2_2 := p2_2.below (below_new _ (.cells #[.string (alo), .string (ahi)] 31))
        have p3_2 := pair_new w2 (alo) (ahi) 31
        go_wp2_with fail
        refine (lowR_is alo blo _ HL.out _).mono ?_
        rintro e w3 ⟨rfl, h3⟩
        have hb3 := hb2.trans (h3.mono hb2.size)
        have p0_3 := p0_2.below h3
        have c0_3 := p0_3.1
        have d0_3 := p0_3.2.1
        have f0_3 := p0_3.2.2.1
        have g0_3 := p0_3.2.2.2
        have p1_3 := p1_2.below h3
        have c1_3 := p1_3.1
        have d1_3 := p1_3.2.1
        have f1_3 := p1_3.2.2.1
        have g1_3 := p1_3.2.2.2
        have p2_3 := p2_2.below h3
        have c2_3 := p2_3.1
        have d2_3 := p2_3.2.1
        have f2_3 := p2_3.2.2.1
        have g2_3 := p2_3.2.2.2
        have p3_3 := p3_2.below h3
        have c3_3 := p3_3.1
        have d3_3 := p3_3.2.1
        have f3_3 := p3_3.2.2.1
        have g3_3 := p3_3.2.2.2
        go_wp2_with fail
        refine (highR_is ahi bhi _ HH.out _).mono ?_
        rintro e w4 ⟨rfl, h4⟩
        have hb4 := hb3.trans (h4.mono hb3.size)
        have p0_4 := p0_3.below h4
        have c0_4 := p0_4.1
        have d0_4 := p0_4.2.1
        have f0_4 := p0_4.2.2.1
        have g0_4 := p0_4.2.2.2
        have p1_4 := p1_3.below h4
        have c1_4 := p1_4.1
        have d1_4 := p1_4.2.1
        have f1_4 := p1_4.2.2.1
        have g1_4 := p1_4.2.2.2
        have p2_4 := p2_3.below h4
        have c2_4 := p2_4.1
        have d2_4 := p2_4.2.1
        have f2_4 := p2_4.2.2.1
        have g2_4 := p2_4.2.2.2
        have p3_4 := p3_3.below h4
        have c3_4 := p3_4.1
        have d3_4 := p3_4.2.1
        have f3_4 := p3_4.2.2.1
        have g3_4 := p3_4.2.2.2
        go_wp2_with fail
        refine (spanMay_is alo ahi _ HS.out _).mono ?_
        rintro e w5 ⟨rfl, h5⟩
        have hb5 := hb4.trans (h5.mono hb4.size)
        have p0_5 := p0_4.below h5
        have c0_5 := p0_5.1
        have d0_5 := p0_5.2.1
        have f0_5 := p0_5.2.2.1
        have g0_5 := p0_5.2.2.2
        have p1_5 := p1_4.below h5
        have c1_5 := p1_5.1
        have d1_5 := p1_5.2.1
        have f1_5 := p1_5.2.2.1
        have g1_5 := p1_5.2.2.2
        have p2_5 := p2_4.below h5
        have c2_5 := p2_5.1
        have d2_5 := p2_5.2.1
        have f2_5 := p2_5.2.2.1
        have g2_5 := p2_5.2.2.2
        have p3_5 := p3_4.below h5
        have c3_5 := p3_5.1
        have d3_5 := p3_5.2.1
        have f3_5 := p3_5.2.2.1
        have g3_5 := p3_5.2.2.2
        go_wp2
        refine bodyPost_ret (v := .tuple #[.agg #[.string (⟨#[]⟩), .string (⟨#[]⟩)], .bool false]) (by simp [results, Tryz.results39, go_sem, c2_5, d2_5, World.cell?_setCell_same']) rfl ⟨rfl, (hb5.setCell (p := ⟨w.heap.size + 2, 0, none⟩) (Nat.le_add_right _ _) _).setCell (p := ⟨w.heap.size + 2, 1, none⟩) (Nat.le_add_right _ _) _⟩
      | true =>
        rw [hs] at hm
        rw [if_pos rfl] at hm
        injection hm with h1 h2; injection h2 with h2 h3; subst h1; subst h2; subst h3
        have HS := Lib.hid hs
        clear hs
        go_enter Tryz.func39, Tryz.ntmps39
        go_wp2_with fail
        refine (spanMay_is alo ahi _ Ha.out _).mono ?_
        rintro e w1 ⟨rfl, h1⟩
        have hb1 := hb0.trans (h1.mono hb0.size)
        have p0_1 := p0_0.below h1
        have c0_1 := p0_1.1
        have d0_1 := p0_1.2.1
        have f0_1 := p0_1.2.2.1
        have g0_1 := p0_1.2.2.2
        have p1_1 := p1_0.below h1
        have c1_1 := p1_1.1
        have d1_1 := p1_1.2.1
        have f1_1 := p1_1.2.2.1
        have g1_1 := p1_1.2.2.2
        have p2_1 := p2_0.below h1
        have c2_1 := p2_1.1
        have d2_1 := p2_1.2.1
        have f2_1 := p2_1.2.2.1
        have g2_1 := p2_1.2.2.2
        go_wp2_with fail
        refine (spanMay_is blo bhi _ Hb.out _).mono ?_
        rintro e w2 ⟨rfl, h2⟩
        have hb2 := hb1.trans (h2.mono hb1.size)
        have p0_2 := p0_1.below h2
        have c0_2 := p0_2.1
        have d0_2 := p0_2.2.1
        have f0_2 := p0_2.2.2.1
        have g0_2 := p0_2.2.2.2
        have p1_2 := p1_1.below h2
        have c1_2 := p1_2.1
        have d1_2 := p1_2.2.1
        have f1_2 := p1_2.2.2.1
        have g1_2 := p1_2.2.2.2
        have p2_2 := p2_1.below h2
        have c2_2 := p2_2.1
        have d2_2 := p2_2.2.1
        have f2_2 := p2_2.2.2.1
        have g2_2 := p2_2.2.2.2
        have lt0 := World.block_lt_of_cell? _ _ p0_2.1
        have lt1 := World.block_lt_of_cell? _ _ p1_2.1
        have lt2 := World.block_lt_of_cell? _ _ p2_2.1
        have le3 := hb2.size
        have hb2 := hb2.alloc hb2.size (.cells #[.string (alo), .string (ahi)] 31)
        have p0_2 := p0_2.below (below_new _ (.cells #[.string (alo), .string (ahi)] 31))
        have p1_2 := p1_2.below (below_new _ (.cells #[.string (alo), .string (ahi)] 31))
        have p2_2 := p2_2.below (below_new _ (.cells #[.string (alo), .string (ahi)] 31))
        have p3_2 := pair_new w2 (alo) (ahi) 31
        go_wp2_with fail
        refine (lowR_is alo blo _ HL.out _).mono ?_
        rintro e w3 ⟨rfl, h3⟩
        have hb3 := hb2.trans (h3.mono hb2.size)
        have p0_3 := p0_2.below h3
        have c0_3 := p0_3.1
        have d0_3 := p0_3.2.1
        have f0_3 := p0_3.2.2.1
        have g0_3 := p0_3.2.2.2
        have p1_3 := p1_2.below h3
        have c1_3 := p1_3.1
        have d1_3 := p1_3.2.1
        have f1_3 := p1_3.2.2.1
        have g1_3 := p1_3.2.2.2
        have p2_3 := p2_2.below h3
        have c2_3 := p2_3.1
        have d2_3 := p2_3.2.1
        have f2_3 := p2_3.2.2.1
        have g2_3 := p2_3.2.2.2
        have p3_3 := p3_2.below h3
        have c3_3 := p3_3.1
        have d3_3 := p3_3.2.1
        have f3_3 := p3_3.2.2.1
        have g3_3 := p3_3.2.2.2
        go_wp2_with fail
        refine (highR_is ahi bhi _ HH.out _).mono ?_
        rintro e w4 ⟨rfl, h4⟩
        have hb4 := hb3.trans (h4.mono hb3.size)
        have p0_4 := p0_3.below h4
        have c0_4 := p0_4.1
        have d0_4 := p0_4.2.1
        have f0_4 := p0_4.2.2.1
        have g0_4 := p0_4.2.2.2
        have p1_4 := p1_3.below h4
        have c1_4 := p1_4.1
        have d1_4 := p1_4.2.1
        have f1_4 := p1_4.2.2.1
        have g1_4 := p1_4.2.2.2
        have p2_4 := p2_3.below h4
        have c2_4 := p2_4.1
        have d2_4 := p2_4.2.1
        have f2_4 := p2_4.2.2.1
        have g2_4 := p2_4.2.2.2
        have p3_4 := p3_3.below h4
        have c3_4 := p3_4.1
        have d3_4 := p3_4.2.1
        have f3_4 := p3_4.2.2.1
        have g3_4 := p3_4.2.2.2
        go_wp2_with fail
        refine (spanMay_is alo ahi _ HS.out _).mono ?_
        rintro e w5 ⟨rfl, h5⟩
        have hb5 := hb4.trans (h5.mono hb4.size)
        have p0_5 := p0_4.below h5
        have c0_5 := p0_5.1
        have d0_5 := p0_5.2.1
        have f0_5 := p0_5.2.2.1
        have g0_5 := p0_5.2.2.2
        have p1_5 := p1_4.below h5
        have c1_5 := p1_5.1
        have d1_5 := p1_5.2.1
        have f1_5 := p1_5.2.2.1
        have g1_5 := p1_5.2.2.2
        have p2_5 := p2_4.below h5
        have c2_5 := p2_5.1
        have d2_5 := p2_5.2.1
        have f2_5 := p2_5.2.2.1
        have g2_5 := p2_5.2.2.2
        have p3_5 := p3_4.below h5
        have c3_5 := p3_5.1
        have d3_5 := p3_5.2.1
        have f3_5 := p3_5.2.2.1
        have g3_5 := p3_5.2.2.2
        go_wp2
        refine bodyPost_ret (v := .tuple #[.agg #[.string (alo), .string (ahi)], .bool true]) (by simp [results, Tryz.results39, go_sem, c2_5, d2_5, World.cell?_setCell_same']) rfl ⟨rfl, (hb5.setCell (p := ⟨w.heap.size + 2, 0, none⟩) (Nat.le_add_right _ _) _).setCell (p := ⟨w.heap.size + 2, 1, none⟩) (Nat.le_add_right _ _) _⟩
    | true =>
      have eh : mhi ahi bhi = bhi := by unfold mhi; rw [hh]; rfl
      rw [el, eh] at hm
      have HL := Lib.hid hl
      have HH := Lib.hid hh
      clear hl hh el eh
      cases hs : smay alo.data.toList bhi.data.toList with
      | false =>
        rw [hs] at hm
        rw [if_neg (by simp)] at hm
        injection hm with h1 h2; injection h2 with h2 h3; subst h1; subst h2; subst h3
        have HS := Lib.hid hs
        clear hs
        go_enter Tryz.func39, Tryz.ntmps39
        go_wp2_with fail
        refine (spanMay_is alo ahi _ Ha.out _).mono ?_
        rintro e w1 ⟨rfl, h1⟩
        have hb1 := hb0.trans (h1.mono hb0.size)
        have p0_1 := p0_0.below h1
        have c0_1 := p0_1.1
        have d0_1 := p0_1.2.1
        have f0_1 := p0_1.2.2.1
        have g0_1 := p0_1.2.2.2
        have p1_1 := p1_0.below h1
        have c1_1 := p1_1.1
        have d1_1 := p1_1.2.1
        have f1_1 := p1_1.2.2.1
        have g1_1 := p1_1.2.2.2
        have p2_1 := p2_0.below h1
        have c2_1 := p2_1.1
        have d2_1 := p2_1.2.1
        have f2_1 := p2_1.2.2.1
        have g2_1 := p2_1.2.2.2
        go_wp2_with fail
        refine (spanMay_is blo bhi _ Hb.out _).mono ?_
        rintro e w2 ⟨rfl, h2⟩
        have hb2 := hb1.trans (h2.mono hb1.size)
        have p0_2 := p0_1.below h2
        have c0_2 := p0_2.1
        have d0_2 := p0_2.2.1
        have f0_2 := p0_2.2.2.1
        have g0_2 := p0_2.2.2.2
        have p1_2 := p1_1.below h2
        have c1_2 := p1_2.1
        have d1_2 := p1_2.2.1
        have f1_2 := p1_2.2.2.1
        have g1_2 := p1_2.2.2.2
        have p2_2 := p2_1.below h2
        have c2_2 := p2_2.1
        have d2_2 := p2_2.2.1
        have f2_2 := p2_2.2.2.1
        have g2_2 := p2_2.2.2.2
        have lt0 := World.block_lt_of_cell? _ _ p0_2.1
        have lt1 := World.block_lt_of_cell? _ _ p1_2.1
        have lt2 := World.block_lt_of_cell? _ _ p2_2.1
        have le3 := hb2.size
        have hb2 := hb2.alloc hb2.size (.cells #[.string (alo), .string (ahi)] 31)
        have p0_2 := p0_2.below (below_new _ (.cells #[.string (alo), .string (ahi)] 31))
        have p1_2 := p1_2.below (below_new _ (.cells #[.string (alo), .string (ahi)] 31))
        have p2_2 := p2_2.below (below_new _ (.cells #[.string (alo), .string (ahi)] 31))
        have p3_2 := pair_new w2 (alo) (ahi) 31
        go_wp2_with fail
        refine (lowR_is alo blo _ HL.out _).mono ?_
        rintro e w3 ⟨rfl, h3⟩
        have hb3 := hb2.trans (h3.mono hb2.size)
        have p0_3 := p0_2.below h3
        have c0_3 := p0_3.1
        have d0_3 := p0_3.2.1
        have f0_3 := p0_3.2.2.1
        have g0_3 := p0_3.2.2.2
        have p1_3 := p1_2.below h3
        have c1_3 := p1_3.1
        have d1_3 := p1_3.2.1
        have f1_3 := p1_3.2.2.1
        have g1_3 := p1_3.2.2.2
        have p2_3 := p2_2.below h3
        have c2_3 := p2_3.1
        have d2_3 := p2_3.2.1
        have f2_3 := p2_3.2.2.1
        have g2_3 := p2_3.2.2.2
        have p3_3 := p3_2.below h3
        have c3_3 := p3_3.1
        have d3_3 := p3_3.2.1
        have f3_3 := p3_3.2.2.1
        have g3_3 := p3_3.2.2.2
        go_wp2_with fail
        refine (highR_is ahi bhi _ HH.out _).mono ?_
        rintro e w4 ⟨rfl, h4⟩
        have hb4 := hb3.trans (h4.mono hb3.size)
        have p0_4 := p0_3.below h4
        have c0_4 := p0_4.1
        have d0_4 := p0_4.2.1
        have f0_4 := p0_4.2.2.1
        have g0_4 := p0_4.2.2.2
        have p1_4 := p1_3.below h4
        have c1_4 := p1_4.1
        have d1_4 := p1_4.2.1
        have f1_4 := p1_4.2.2.1
        have g1_4 := p1_4.2.2.2
        have p2_4 := p2_3.below h4
        have c2_4 := p2_4.1
        have d2_4 := p2_4.2.1
        have f2_4 := p2_4.2.2.1
        have g2_4 := p2_4.2.2.2
        have p3_4 := p3_3.below h4
        have c3_4 := p3_4.1
        have d3_4 := p3_4.2.1
        have f3_4 := p3_4.2.2.1
        have g3_4 := p3_4.2.2.2
        have hb4 := hb4.setCell (p := ⟨w2.heap.size, 1, none⟩) le3 (.string bhi)
        have p0_4 := p0_4.other (Nat.ne_of_lt lt0) 1 (.string bhi)
        have p1_4 := p1_4.other (Nat.ne_of_lt lt1) 1 (.string bhi)
        have p2_4 := p2_4.other (Nat.ne_of_lt lt2) 1 (.string bhi)
        have p3_4 := p3_4.set1 bhi
        have c0_4 := p0_4.1
        have d0_4 := p0_4.2.1
        have f0_4 := p0_4.2.2.1
        have g0_4 := p0_4.2.2.2
        have c1_4 := p1_4.1
        have d1_4 := p1_4.2.1
        have f1_4 := p1_4.2.2.1
        have g1_4 := p1_4.2.2.2
        have c2_4 := p2_4.1
        have d2_4 := p2_4.2.1
        have f2_4 := p2_4.2.2.1
        have g2_4 := p2_4.2.2.2
        have c3_4 := p3_4.1
        have d3_4 := p3_4.2.1
        have f3_4 := p3_4.2.2.1
        have g3_4 := p3_4.2.2.2
        go_wp2_with fail
        refine (spanMay_is alo bhi _ HS.out _).mono ?_
        rintro e w5 ⟨rfl, h5⟩
        have hb5 := hb4.trans (h5.mono hb4.size)
        have p0_5 := p0_4.below h5
        have c0_5 := p0_5.1
        have d0_5 := p0_5.2.1
        have f0_5 := p0_5.2.2.1
        have g0_5 := p0_5.2.2.2
        have p1_5 := p1_4.below h5
        have c1_5 := p1_5.1
        have d1_5 := p1_5.2.1
        have f1_5 := p1_5.2.2.1
        have g1_5 := p1_5.2.2.2
        have p2_5 := p2_4.below h5
        have c2_5 := p2_5.1
        have d2_5 := p2_5.2.1
        have f2_5 := p2_5.2.2.1
        have g2_5 := p2_5.2.2.2
        have p3_5 := p3_4.below h5
        have c3_5 := p3_5.1
        have d3_5 := p3_5.2.1
        have f3_5 := p3_5.2.2.1
        have g3_5 := p3_5.2.2.2
        go_wp2
        refine bodyPost_ret (v := .tuple #[.agg #[.string (⟨#[]⟩), .string (⟨#[]⟩)], .bool false]) (by simp [results, Tryz.results39, go_sem, c2_5, d2_5, World.cell?_setCell_same']) rfl ⟨rfl, (hb5.setCell (p := ⟨w.heap.size + 2, 0, none⟩) (Nat.le_add_right _ _) _).setCell (p := ⟨w.heap.size + 2, 1, none⟩) (Nat.le_add_right _ _) _⟩
      | true =>
        rw [hs] at hm
        rw [if_pos rfl] at hm
        injection hm with h1 h2; injection h2 with h2 h3; subst h1; subst h2; subst h3
        have HS := Lib.hid hs
        clear hs
        go_enter Tryz.func39, Tryz.ntmps39
        go_wp2_with fail
        refine (spanMay_is alo ahi _ Ha.out _).mono ?_
        rintro e w1 ⟨rfl, h1⟩
        have hb1 := hb0.trans (h1.mono hb0.size)
        have p0_1 := p0_0.below h1
        have c0_1 := p0_1.1
        have d0_1 := p0_1.2.1
        have f0_1 := p0_1.2.2.1
        have g0_1 := p0_1.2.2.2
        have p1_1 := p1_0.below h1
        have c1_1 := p1_1.1
        have d1_1 := p1_1.2.1
        have f1_1 := p1_1.2.2.1
        have g1_1 := p1_1.2.2.2
        have p2_1 := p2_0.below h1
        have c2_1 := p2_1.1
        have d2_1 := p2_1.2.1
        have f2_1 := p2_1.2.2.1
        have g2_1 := p2_1.2.2.2
        go_wp2_with fail
        refine (spanMay_is blo bhi _ Hb.out _).mono ?_
        rintro e w2 ⟨rfl, h2⟩
        have hb2 := hb1.trans (h2.mono hb1.size)
        have p0_2 := p0_1.below h2
        have c0_2 := p0_2.1
        have d0_2 := p0_2.2.1
        have f0_2 := p0_2.2.2.1
        have g0_2 := p0_2.2.2.2
        have p1_2 := p1_1.below h2
        have c1_2 := p1_2.1
        have d1_2 := p1_2.2.1
        have f1_2 := p1_2.2.2.1
        have g1_2 := p1_2.2.2.2
        have p2_2 := p2_1.below h2
        have c2_2 := p2_2.1
        have d2_2 := p2_2.2.1
        have f2_2 := p2_2.2.2.1
        have g2_2 := p2_2.2.2.2
        have lt0 := World.block_lt_of_cell? _ _ p0_2.1
        have lt1 := World.block_lt_of_cell? _ _ p1_2.1
        have lt2 := World.block_lt_of_cell? _ _ p2_2.1
        have le3 := hb2.size
        have hb2 := hb2.alloc hb2.size (.cells #[.string (alo), .string (ahi)] 31)
        have p0_2 := p0_2.below (below_new _ (.cells #[.string (alo), .string (ahi)] 31))
        have p1_2 := p1_2.below (below_new _ (.cells #[.string (alo), .string (ahi)] 31))
        have p2_2 := p2_2.below (below_new _ (.cells #[.string (alo), .string (ahi)] 31))
        have p3_2 := pair_new w2 (alo) (ahi) 31
        go_wp2_with fail
        refine (lowR_is alo blo _ HL.out _).mono ?_
        rintro e w3 ⟨rfl, h3⟩
        have hb3 := hb2.trans (h3.mono hb2.size)
        have p0_3 := p0_2.below h3
        have c0_3 := p0_3.1
        have d0_3 := p0_3.2.1
        have f0_3 := p0_3.2.2.1
        have g0_3 := p0_3.2.2.2
        have p1_3 := p1_2.below h3
        have c1_3 := p1_3.1
        have d1_3 := p1_3.2.1
        have f1_3 := p1_3.2.2.1
        have g1_3 := p1_3.2.2.2
        have p2_3 := p2_2.below h3
        have c2_3 := p2_3.1
        have d2_3 := p2_3.2.1
        have f2_3 := p2_3.2.2.1
        have g2_3 := p2_3.2.2.2
        have p3_3 := p3_2.below h3
        have c3_3 := p3_3.1
        have d3_3 := p3_3.2.1
        have f3_3 := p3_3.2.2.1
        have g3_3 := p3_3.2.2.2
        go_wp2_with fail
        refine (highR_is ahi bhi _ HH.out _).mono ?_
        rintro e w4 ⟨rfl, h4⟩
        have hb4 := hb3.trans (h4.mono hb3.size)
        have p0_4 := p0_3.below h4
        have c0_4 := p0_4.1
        have d0_4 := p0_4.2.1
        have f0_4 := p0_4.2.2.1
        have g0_4 := p0_4.2.2.2
        have p1_4 := p1_3.below h4
        have c1_4 := p1_4.1
        have d1_4 := p1_4.2.1
        have f1_4 := p1_4.2.2.1
        have g1_4 := p1_4.2.2.2
        have p2_4 := p2_3.below h4
        have c2_4 := p2_4.1
        have d2_4 := p2_4.2.1
        have f2_4 := p2_4.2.2.1
        have g2_4 := p2_4.2.2.2
        have p3_4 := p3_3.below h4
        have c3_4 := p3_4.1
        have d3_4 := p3_4.2.1
        have f3_4 := p3_4.2.2.1
        have g3_4 := p3_4.2.2.2
        have hb4 := hb4.setCell (p := ⟨w2.heap.size, 1, none⟩) le3 (.string bhi)
        have p0_4 := p0_4.other (Nat.ne_of_lt lt0) 1 (.string bhi)
        have p1_4 := p1_4.other (Nat.ne_of_lt lt1) 1 (.string bhi)
        have p2_4 := p2_4.other (Nat.ne_of_lt lt2) 1 (.string bhi)
        have p3_4 := p3_4.set1 bhi
        have c0_4 := p0_4.1
        have d0_4 := p0_4.2.1
        have f0_4 := p0_4.2.2.1
        have g0_4 := p0_4.2.2.2
        have c1_4 := p1_4.1
        have d1_4 := p1_4.2.1
        have f1_4 := p1_4.2.2.1
        have g1_4 := p1_4.2.2.2
        have c2_4 := p2_4.1
        have d2_4 := p2_4.2.1
        have f2_4 := p2_4.2.2.1
        have g2_4 := p2_4.2.2.2
        have c3_4 := p3_4.1
        have d3_4 := p3_4.2.1
        have f3_4 := p3_4.2.2.1
        have g3_4 := p3_4.2.2.2
        go_wp2_with fail
        refine (spanMay_is alo bhi _ HS.out _).mono ?_
        rintro e w5 ⟨rfl, h5⟩
        have hb5 := hb4.trans (h5.mono hb4.size)
        have p0_5 := p0_4.below h5
        have c0_5 := p0_5.1
        have d0_5 := p0_5.2.1
        have f0_5 := p0_5.2.2.1
        have g0_5 := p0_5.2.2.2
        have p1_5 := p1_4.below h5
        have c1_5 := p1_5.1
        have d1_5 := p1_5.2.1
        have f1_5 := p1_5.2.2.1
        have g1_5 := p1_5.2.2.2
        have p2_5 := p2_4.below h5
        have c2_5 := p2_5.1
        have d2_5 := p2_5.2.1
        have f2_5 := p2_5.2.2.1
        have g2_5 := p2_5.2.2.2
        have p3_5 := p3_4.below h5
        have c3_5 := p3_5.1
        have d3_5 := p3_5.2.1
        have f3_5 := p3_5.2.2.1
        have g3_5 := p3_5.2.2.2
        go_wp2
        refine bodyPost_ret (v := .tuple #[.agg #[.string (alo), .string (bhi)], .bool true]) (by simp [results, Tryz.results39, go_sem, c2_5, d2_5, World.cell?_setCell_same']) rfl ⟨rfl, (hb5.setCell (p := ⟨w.heap.size + 2, 0, none⟩) (Nat.le_add_right _ _) _).setCell (p := ⟨w.heap.size + 2, 1, none⟩) (Nat.le_add_right _ _) _⟩
  | true =>
    have el : mlo alo blo = blo := by unfold mlo; rw [hl]; rfl
    cases hh : highR ahi.data.toList bhi.data.toList with
    | false =>
      have eh : mhi ahi bhi = ahi := by unfold mhi; rw [hh]; rfl
      rw [el, eh] at hm
      have HL := Lib.hid hl
      have HH := Lib.hid hh
      clear hl hh el eh
      cases hs : smay blo.data.toList ahi.data.toList with
      | false =>
        rw [hs] at hm
        rw [if_neg (by simp)] at hm
        injection hm with h1 h2; injection h2 with h2 h3; subst h1; subst h2; subst h3
        have HS := Lib.hid hs
        clear hs
        go_enter Tryz.func39, Tryz.ntmps39
        go_wp2_with fail
        refine (spanMay_is alo ahi _ Ha.out _).mono ?_
        rintro e w1 ⟨rfl, h1⟩
        have hb1 := hb0.trans (h1.mono hb0.size)
        have p0_1 := p0_0.below h1
        have c0_1 := p0_1.1
        have d0_1 := p0_1.2.1
        have f0_1 := p0_1.2.2.1
        have g0_1 := p0_1.2.2.2
        have p1_1 := p1_0.below h1
        have c1_1 := p1_1.1
        have d1_1 := p1_1.2.1
        have f1_1 := p1_1.2.2.1
        have g1_1 := p1_1.2.2.2
        have p2_1 := p2_0.below h1
        have c2_1 := p2_1.1
        have d2_1 := p2_1.2.1
        have f2_1 := p2_1.2.2.1
        have g2_1 := p2_1.2.2.2
        go_wp2_with fail
        refine (spanMay_is blo bhi _ Hb.out _).mono ?_
        rintro e w2 ⟨rfl, h2⟩
        have hb2 := hb1.trans (h2.mono hb1.size)
        have p0_2 := p0_1.below h2
        have c0_2 := p0_2.1
        have d0_2 := p0_2.2.1
        have f0_2 := p0_2.2.2.1
        have g0_2 := p0_2.2.2.2
        have p1_2 := p1_1.below h2
        have c1_2 := p1_2.1
        have d1_2 := p1_2.2.1
        have f1_2 := p1_2.2.2.1
        have g1_2 := p1_2.2.2.2
        have p2_2 := p2_1.below h2
        have c2_2 := p2_2.1
        have d2_2 := p2_2.2.1
        have f2_2 := p2_2.2.2.1
        have g2_2 := p2_2.2.2.2
        have lt0 := World.block_lt_of_cell? _ _ p0_2.1
        have lt1 := World.block_lt_of_cell? _ _ p1_2.1
        have lt2 := World.block_lt_of_cell? _ _ p2_2.1
        have le3 := hb2.size
        have hb2 := hb2.alloc hb2.size (.cells #[.string (alo), .string (ahi)] 31)
        have p0_2 := p0_2.below (below_new _ (.cells #[.string (alo), .string (ahi)] 31))
        have p1_2 := p1_2.below (below_new _ (.cells #[.string (alo), .string (ahi)] 31))
        have p2_2 := p2_2.below (below_new _ (.cells #[.string (alo), .string (ahi)] 31))
        have p3_2 := pair_new w2 (alo) (ahi) 31
        go_wp2_with fail
        refine (lowR_is alo blo _ HL.out _).mono ?_
        rintro e w3 ⟨rfl, h3⟩
        have hb3 := hb2.trans (h3.mono hb2.size)
        have p0_3 := p0_2.below h3
        have c0_3 := p0_3.1
        have d0_3 := p0_3.2.1
        have f0_3 := p0_3.2.2.1
        have g0_3 := p0_3.2.2.2
        have p1_3 := p1_2.below h3
        have c1_3 := p1_3.1
        have d1_3 := p1_3.2.1
        have f1_3 := p1_3.2.2.1
        have g1_3 := p1_3.2.2.2
        have p2_3 := p2_2.below h3
        have c2_3 := p2_3.1
        have d2_3 := p2_3.2.1
        have f2_3 := p2_3.2.2.1
        have g2_3 := p2_3.2.2.2
        have p3_3 := p3_2.below h3
        have c3_3 := p3_3.1
        have d3_3 := p3_3.2.1
        have f3_3 := p3_3.2.2.1
        have g3_3 := p3_3.2.2.2
        have hb3 := hb3.setCell (p := ⟨w2.heap.size, 0, none⟩) le3 (.string blo)
        have p0_3 := p0_3.other (Nat.ne_of_lt lt0) 0 (.string blo)
        have p1_3 := p1_3.other (Nat.ne_of_lt lt1) 0 (.string blo)
        have p2_3 := p2_3.other (Nat.ne_of_lt lt2) 0 (.string blo)
        have p3_3 := p3_3.set0 blo
        have c0_3 := p0_3.1
        have d0_3 := p0_3.2.1
        have f0_3 := p0_3.2.2.1
        have g0_3 := p0_3.2.2.2
        have c1_3 := p1_3.1
        have d1_3 := p1_3.2.1
        have f1_3 := p1_3.2.2.1
        have g1_3 := p1_3.2.2.2
        have c2_3 := p2_3.1
        have d2_3 := p2_3.2.1
        have f2_3 := p2_3.2.2.1
        have g2_3 := p2_3.2.2.2
        have c3_3 := p3_3.1
        have d3_3 := p3_3.2.1
        have f3_3 := p3_3.2.2.1
        have g3_3 := p3_3.2.2.2
        go_wp2_with fail
        refine (highR_is ahi bhi _ HH.out _).mono ?_
        rintro e w4 ⟨rfl, h4⟩
        have hb4 := hb3.trans (h4.mono hb3.size)
        have p0_4 := p0_3.below h4
        have c0_4 := p0_4.1
        have d0_4 := p0_4.2.1
        have f0_4 := p0_4.2.2.1
        have g0_4 := p0_4.2.2.2
        have p1_4 := p1_3.below h4
        have c1_4 := p1_4.1
        have d1_4 := p1_4.2.1
        have f1_4 := p1_4.2.2.1
        have g1_4 := p1_4.2.2.2
        have p2_4 := p2_3.below h4
        have c2_4 := p2_4.1
        have d2_4 := p2_4.2.1
        have f2_4 := p2_4.2.2.1
        have g2_4 := p2_4.2.2.2
        have p3_4 := p3_3.below h4
        have c3_4 := p3_4.1
        have d3_4 := p3_4.2.1
        have f3_4 := p3_4.2.2.1
        have g3_4 := p3_4.2.2.2
        go_wp2_with fail
        refine (spanMay_is blo ahi _ HS.out _).mono ?_
        rintro e w5 ⟨rfl, h5⟩
        have hb5 := hb4.trans (h5.mono hb4.size)
        have p0_5 := p0_4.below h5
        have c0_5 := p0_5.1
        have d0_5 := p0_5.2.1
        have f0_5 := p0_5.2.2.1
        have g0_5 := p0_5.2.2.2
        have p1_5 := p1_4.below h5
        have c1_5 := p1_5.1
        have d1_5 := p1_5.2.1
        have f1_5 := p1_5.2.2.1
        have g1_5 := p1_5.2.2.2
        have p2_5 := p2_4.below h5
        have c2_5 := p2_5.1
        have d2_5 := p2_5.2.1
        have f2_5 := p2_5.2.2.1
        have g2_5 := p2_5.2.2.2
        have p3_5 := p3_4.below h5
        have c3_5 := p3_5.1
        have d3_5 := p3_5.2.1
        have f3_5 := p3_5.2.2.1
        have g3_5 := p3_5.2.2.2
        go_wp2
        refine bodyPost_ret (v := .tuple #[.agg #[.string (⟨#[]⟩), .string (⟨#[]⟩)], .bool false]) (by simp [results, Tryz.results39, go_sem, c2_5, d2_5, World.cell?_setCell_same']) rfl ⟨rfl, (hb5.setCell (p := ⟨w.heap.size + 2, 0, none⟩) (Nat.le_add_right _ _) _).setCell (p := ⟨w.heap.size + 2, 1, none⟩) (Nat.le_add_right _ _) _⟩
      | true =>
        rw [hs] at hm
        rw [if_pos rfl] at hm
        injection hm with h1 h2; injection h2 with h2 h3; subst h1; subst h2; subst h3
        have HS := Lib.hid hs
        clear hs
        go_enter Tryz.func39, Tryz.ntmps39
        go_wp2_with fail
        refine (spanMay_is alo ahi _ Ha.out _).mono ?_
        rintro e w1 ⟨rfl, h1⟩
        have hb1 := hb0.trans (h1.mono hb0.size)
        have p0_1 := p0_0.below h1
        have c0_1 := p0_1.1
        have d0_1 := p0_1.2.1
        have f0_1 := p0_1.2.2.1
        have g0_1 := p0_1.2.2.2
        have p1_1 := p1_0.below h1
        have c1_1 := p1_1.1
        have d1_1 := p1_1.2.1
        have f1_1 := p1_1.2.2.1
        have g1_1 := p1_1.2.2.2
        have p2_1 := p2_0.below h1
        have c2_1 := p2_1.1
        have d2_1 := p2_1.2.1
        have f2_1 := p2_1.2.2.1
        have g2_1 := p2_1.2.2.2
        go_wp2_with fail
        refine (spanMay_is blo bhi _ Hb.out _).mono ?_
        rintro e w2 ⟨rfl, h2⟩
        have hb2 := hb1.trans (h2.mono hb1.size)
        have p0_2 := p0_1.below h2
        have c0_2 := p0_2.1
        have d0_2 := p0_2.2.1
        have f0_2 := p0_2.2.2.1
        have g0_2 := p0_2.2.2.2
        have p1_2 := p1_1.below h2
        have c1_2 := p1_2.1
        have d1_2 := p1_2.2.1
        have f1_2 := p1_2.2.2.1
        have g1_2 := p1_2.2.2.2
        have p2_2 := p2_1.below h2
        have c2_2 := p2_2.1
        have d2_2 := p2_2.2.1
        have f2_2 := p2_2.2.2.1
        have g2_2 := p2_2.2.2.2
        have lt0 := World.block_lt_of_cell? _ _ p0_2.1
        have lt1 := World.block_lt_of_cell? _ _ p1_2.1
        have lt2 := World.block_lt_of_cell? _ _ p2_2.1
        have le3 := hb2.size
        have hb2 := hb2.alloc hb2.size (.cells #[.string (alo), .string (ahi)] 31)
        have p0_2 := p0_2.below (below_new _ (.cells #[.string (alo), .string (ahi)] 31))
        have p1_2 := p1_2.below (below_new _ (.cells #[.string (alo), .string (ahi)] 31))
        have p2_2 := p2_2.below (below_new _ (.cells #[.string (alo), .string (ahi)] 31))
        have p3_2 := pair_new w2 (alo) (ahi) 31
        go_wp2_with fail
        refine (lowR_is alo blo _ HL.out _).mono ?_
        rintro e w3 ⟨rfl, h3⟩
        have hb3 := hb2.trans (h3.mono hb2.size)
        have p0_3 := p0_2.below h3
        have c0_3 := p0_3.1
        have d0_3 := p0_3.2.1
        have f0_3 := p0_3.2.2.1
        have g0_3 := p0_3.2.2.2
        have p1_3 := p1_2.below h3
        have c1_3 := p1_3.1
        have d1_3 := p1_3.2.1
        have f1_3 := p1_3.2.2.1
        have g1_3 := p1_3.2.2.2
        have p2_3 := p2_2.below h3
        have c2_3 := p2_3.1
        have d2_3 := p2_3.2.1
        have f2_3 := p2_3.2.2.1
        have g2_3 := p2_3.2.2.2
        have p3_3 := p3_2.below h3
        have c3_3 := p3_3.1
        have d3_3 := p3_3.2.1
        have f3_3 := p3_3.2.2.1
        have g3_3 := p3_3.2.2.2
        have hb3 := hb3.setCell (p := ⟨w2.heap.size, 0, none⟩) le3 (.string blo)
        have p0_3 := p0_3.other (Nat.ne_of_lt lt0) 0 (.string blo)
        have p1_3 := p1_3.other (Nat.ne_of_lt lt1) 0 (.string blo)
        have p2_3 := p2_3.other (Nat.ne_of_lt lt2) 0 (.string blo)
        have p3_3 := p3_3.set0 blo
        have c0_3 := p0_3.1
        have d0_3 := p0_3.2.1
        have f0_3 := p0_3.2.2.1
        have g0_3 := p0_3.2.2.2
        have c1_3 := p1_3.1
        have d1_3 := p1_3.2.1
        have f1_3 := p1_3.2.2.1
        have g1_3 := p1_3.2.2.2
        have c2_3 := p2_3.1
        have d2_3 := p2_3.2.1
        have f2_3 := p2_3.2.2.1
        have g2_3 := p2_3.2.2.2
        have c3_3 := p3_3.1
        have d3_3 := p3_3.2.1
        have f3_3 := p3_3.2.2.1
        have g3_3 := p3_3.2.2.2
        go_wp2_with fail
        refine (highR_is ahi bhi _ HH.out _).mono ?_
        rintro e w4 ⟨rfl, h4⟩
        have hb4 := hb3.trans (h4.mono hb3.size)
        have p0_4 := p0_3.below h4
        have c0_4 := p0_4.1
        have d0_4 := p0_4.2.1
        have f0_4 := p0_4.2.2.1
        have g0_4 := p0_4.2.2.2
        have p1_4 := p1_3.below h4
        have c1_4 := p1_4.1
        have d1_4 := p1_4.2.1
        have f1_4 := p1_4.2.2.1
        have g1_4 := p1_4.2.2.2
        have p2_4 := p2_3.below h4
        have c2_4 := p2_4.1
        have d2_4 := p2_4.2.1
        have f2_4 := p2_4.2.2.1
        have g2_4 := p2_4.2.2.2
        have p3_4 := p3_3.below h4
        have c3_4 := p3_4.1
        have d3_4 := p3_4.2.1
        have f3_4 := p3_4.2.2.1
        have g3_4 := p3_4.2.2.2
        go_wp2_with fail
        refine (spanMay_is blo ahi _ HS.out _).mono ?_
        rintro e w5 ⟨rfl, h5⟩
        have hb5 := hb4.trans (h5.mono hb4.size)
        have p0_5 := p0_4.below h5
        have c0_5 := p0_5.1
        have d0_5 := p0_5.2.1
        have f0_5 := p0_5.2.2.1
        have g0_5 := p0_5.2.2.2
        have p1_5 := p1_4.below h5
        have c1_5 := p1_5.1
        have d1_5 := p1_5.2.1
        have f1_5 := p1_5.2.2.1
        have g1_5 := p1_5.2.2.2
        have p2_5 := p2_4.below h5
        have c2_5 := p2_5.1
        have d2_5 := p2_5.2.1
        have f2_5 := p2_5.2.2.1
        have g2_5 := p2_5.2.2.2
        have p3_5 := p3_4.below h5
        have c3_5 := p3_5.1
        have d3_5 := p3_5.2.1
        have f3_5 := p3_5.2.2.1
        have g3_5 := p3_5.2.2.2
        go_wp2
        refine bodyPost_ret (v := .tuple #[.agg #[.string (blo), .string (ahi)], .bool true]) (by simp [results, Tryz.results39, go_sem, c2_5, d2_5, World.cell?_setCell_same']) rfl ⟨rfl, (hb5.setCell (p := ⟨w.heap.size + 2, 0, none⟩) (Nat.le_add_right _ _) _).setCell (p := ⟨w.heap.size + 2, 1, none⟩) (Nat.le_add_right _ _) _⟩
    | true =>
      have eh : mhi ahi bhi = bhi := by unfold mhi; rw [hh]; rfl
      rw [el, eh] at hm
      have HL := Lib.hid hl
      have HH := Lib.hid hh
      clear hl hh el eh
      cases hs : smay blo.data.toList bhi.data.toList with
      | false =>
        rw [hs] at hm
        rw [if_neg (by simp)] at hm
        injection hm with h1 h2; injection h2 with h2 h3; subst h1; subst h2; subst h3
        have HS := Lib.hid hs
        clear hs
        go_enter Tryz.func39, Tryz.ntmps39
        go_wp2_with fail
        refine (spanMay_is alo ahi _ Ha.out _).mono ?_
        rintro e w1 ⟨rfl, h1⟩
        have hb1 := hb0.trans (h1.mono hb0.size)
        have p0_1 := p0_0.below h1
        have c0_1 := p0_1.1
        have d0_1 := p0_1.2.1
        have f0_1 := p0_1.2.2.1
        have g0_1 := p0_1.2.2.2
        have p1_1 := p1_0.below h1
        have c1_1 := p1_1.1
        have d1_1 := p1_1.2.1
        have f1_1 := p1_1.2.2.1
        have g1_1 := p1_1.2.2.2
        have p2_1 := p2_0.below h1
        have c2_1 := p2_1.1
        have d2_1 := p2_1.2.1
        have f2_1 := p2_1.2.2.1
        have g2_1 := p2_1.2.2.2
        go_wp2_with fail
        refine (spanMay_is blo bhi _ Hb.out _).mono ?_
        rintro e w2 ⟨rfl, h2⟩
        have hb2 := hb1.trans (h2.mono hb1.size)
        have p0_2 := p0_1.below h2
        have c0_2 := p0_2.1
        have d0_2 := p0_2.2.1
        have f0_2 := p0_2.2.2.1
        have g0_2 := p0_2.2.2.2
        have p1_2 := p1_1.below h2
        have c1_2 := p1_2.1
        have d1_2 := p1_2.2.1
        have f1_2 := p1_2.2.2.1
        have g1_2 := p1_2.2.2.2
        have p2_2 := p2_1.below h2
        have c2_2 := p2_2.1
        have d2_2 := p2_2.2.1
        have f2_2 := p2_2.2.2.1
        have g2_2 := p2_2.2.2.2
        have lt0 := World.block_lt_of_cell? _ _ p0_2.1
        have lt1 := World.block_lt_of_cell? _ _ p1_2.1
        have lt2 := World.block_lt_of_cell? _ _ p2_2.1
        have le3 := hb2.size
        have hb2 := hb2.alloc hb2.size (.cells #[.string (alo), .string (ahi)] 31)
        have p0_2 := p0_2.below (below_new _ (.cells #[.string (alo), .string (ahi)] 31))
        have p1_2 := p1_2.below (below_new _ (.cells #[.string (alo), .string (ahi)] 31))
        have p2_2 := p2_2.below (below_new _ (.cells #[.string (alo), .string (ahi)] 31))
        have p3_2 := pair_new w2 (alo) (ahi) 31
        go_wp2_with fail
        refine (lowR_is alo blo _ HL.out _).mono ?_
        rintro e w3 ⟨rfl, h3⟩
        have hb3 := hb2.trans (h3.mono hb2.size)
        have p0_3 := p0_2.below h3
        have c0_3 := p0_3.1
        have d0_3 := p0_3.2.1
        have f0_3 := p0_3.2.2.1
        have g0_3 := p0_3.2.2.2
        have p1_3 := p1_2.below h3
        have c1_3 := p1_3.1
        have d1_3 := p1_3.2.1
        have f1_3 := p1_3.2.2.1
        have g1_3 := p1_3.2.2.2
        have p2_3 := p2_2.below h3
        have c2_3 := p2_3.1
        have d2_3 := p2_3.2.1
        have f2_3 := p2_3.2.2.1
        have g2_3 := p2_3.2.2.2
        have p3_3 := p3_2.below h3
        have c3_3 := p3_3.1
        have d3_3 := p3_3.2.1
        have f3_3 := p3_3.2.2.1
        have g3_3 := p3_3.2.2.2
        have hb3 := hb3.setCell (p := ⟨w2.heap.size, 0, none⟩) le3 (.string blo)
        have p0_3 := p0_3.other (Nat.ne_of_lt lt0) 0 (.string blo)
        have p1_3 := p1_3.other (Nat.ne_of_lt lt1) 0 (.string blo)
        have p2_3 := p2_3.other (Nat.ne_of_lt lt2) 0 (.string blo)
        have p3_3 := p3_3.set0 blo
        have c0_3 := p0_3.1
        have d0_3 := p0_3.2.1
        have f0_3 := p0_3.2.2.1
        have g0_3 := p0_3.2.2.2
        have c1_3 := p1_3.1
        have d1_3 := p1_3.2.1
        have f1_3 := p1_3.2.2.1
        have g1_3 := p1_3.2.2.2
        have c2_3 := p2_3.1
        have d2_3 := p2_3.2.1
        have f2_3 := p2_3.2.2.1
        have g2_3 := p2_3.2.2.2
        have c3_3 := p3_3.1
        have d3_3 := p3_3.2.1
        have f3_3 := p3_3.2.2.1
        have g3_3 := p3_3.2.2.2
        go_wp2_with fail
        refine (highR_is ahi bhi _ HH.out _).mono ?_
        rintro e w4 ⟨rfl, h4⟩
        have hb4 := hb3.trans (h4.mono hb3.size)
        have p0_4 := p0_3.below h4
        have c0_4 := p0_4.1
        have d0_4 := p0_4.2.1
        have f0_4 := p0_4.2.2.1
        have g0_4 := p0_4.2.2.2
        have p1_4 := p1_3.below h4
        have c1_4 := p1_4.1
        have d1_4 := p1_4.2.1
        have f1_4 := p1_4.2.2.1
        have g1_4 := p1_4.2.2.2
        have p2_4 := p2_3.below h4
        have c2_4 := p2_4.1
        have d2_4 := p2_4.2.1
        have f2_4 := p2_4.2.2.1
        have g2_4 := p2_4.2.2.2
        have p3_4 := p3_3.below h4
        have c3_4 := p3_4.1
        have d3_4 := p3_4.2.1
        have f3_4 := p3_4.2.2.1
        have g3_4 := p3_4.2.2.2
        have hb4 := hb4.setCell (p := ⟨w2.heap.size, 1, none⟩) le3 (.string bhi)
        have p0_4 := p0_4.other (Nat.ne_of_lt lt0) 1 (.string bhi)
        have p1_4 := p1_4.other (Nat.ne_of_lt lt1) 1 (.string bhi)
        have p2_4 := p2_4.other (Nat.ne_of_lt lt2) 1 (.string bhi)
        have p3_4 := p3_4.set1 bhi
        have c0_4 := p0_4.1
        have d0_4 := p0_4.2.1
        have f0_4 := p0_4.2.2.1
        have g0_4 := p0_4.2.2.2
        have c1_4 := p1_4.1
        have d1_4 := p1_4.2.1
        have f1_4 := p1_4.2.2.1
        have g1_4 := p1_4.2.2.2
        have c2_4 := p2_4.1
        have d2_4 := p2_4.2.1
        have f2_4 := p2_4.2.2.1
        have g2_4 := p2_4.2.2.2
        have c3_4 := p3_4.1
        have d3_4 := p3_4.2.1
        have f3_4 := p3_4.2.2.1
        have g3_4 := p3_4.2.2.2
        go_wp2_with fail
        refine (spanMay_is blo bhi _ HS.out _).mono ?_
        rintro e w5 ⟨rfl, h5⟩
        have hb5 := hb4.trans (h5.mono hb4.size)
        have p0_5 := p0_4.below h5
        have c0_5 := p0_5.1
        have d0_5 := p0_5.2.1
        have f0_5 := p0_5.2.2.1
        have g0_5 := p0_5.2.2.2
        have p1_5 := p1_4.below h5
        have c1_5 := p1_5.1
        have d1_5 := p1_5.2.1
        have f1_5 := p1_5.2.2.1
        have g1_5 := p1_5.2.2.2
        have p2_5 := p2_4.below h5
        have c2_5 := p2_5.1
        have d2_5 := p2_5.2.1
        have f2_5 := p2_5.2.2.1
        have g2_5 := p2_5.2.2.2
        have p3_5 := p3_4.below h5
        have c3_5 := p3_5.1
        have d3_5 := p3_5.2.1
        have f3_5 := p3_5.2.2.1
        have g3_5 := p3_5.2.2.2
        go_wp2
        refine bodyPost_ret (v := .tuple #[.agg #[.string (⟨#[]⟩), .string (⟨#[]⟩)], .bool false]) (by simp [results, Tryz.results39, go_sem, c2_5, d2_5, World.cell?_setCell_same']) rfl ⟨rfl, (hb5.setCell (p := ⟨w.heap.size + 2, 0, none⟩) (Nat.le_add_right _ _) _).setCell (p := ⟨w.heap.size + 2, 1, none⟩) (Nat.le_add_right _ _) _⟩
      | true =>
        rw [hs] at hm
        rw [if_pos rfl] at hm
        injection hm with h1 h2; injection h2 with h2 h3; subst h1; subst h2; subst h3
        have HS := Lib.hid hs
        clear hs
        go_enter Tryz.func39, Tryz.ntmps39
        go_wp2_with fail
        refine (spanMay_is alo ahi _ Ha.out _).mono ?_
        rintro e w1 ⟨rfl, h1⟩
        have hb1 := hb0.trans (h1.mono hb0.size)
        have p0_1 := p0_0.below h1
        have c0_1 := p0_1.1
        have d0_1 := p0_1.2.1
        have f0_1 := p0_1.2.2.1
        have g0_1 := p0_1.2.2.2
        have p1_1 := p1_0.below h1
        have c1_1 := p1_1.1
        have d1_1 := p1_1.2.1
        have f1_1 := p1_1.2.2.1
        have g1_1 := p1_1.2.2.2
        have p2_1 := p2_0.below h1
        have c2_1 := p2_1.1
        have d2_1 := p2_1.2.1
        have f2_1 := p2_1.2.2.1
        have g2_1 := p2_1.2.2.2
        go_wp2_with fail
        refine (spanMay_is blo bhi _ Hb.out _).mono ?_
        rintro e w2 ⟨rfl, h2⟩
        have hb2 := hb1.trans (h2.mono hb1.size)
        have p0_2 := p0_1.below h2
        have c0_2 := p0_2.1
        have d0_2 := p0_2.2.1
        have f0_2 := p0_2.2.2.1
        have g0_2 := p0_2.2.2.2
        have p1_2 := p1_1.below h2
        have c1_2 := p1_2.1
        have d1_2 := p1_2.2.1
        have f1_2 := p1_2.2.2.1
        have g1_2 := p1_2.2.2.2
        have p2_2 := p2_1.below h2
        have c2_2 := p2_2.1
        have d2_2 := p2_2.2.1
        have f2_2 := p2_2.2.2.1
        have g2_2 := p2_2.2.2.2
        have lt0 := World.block_lt_of_cell? _ _ p0_2.1
        have lt1 := World.block_lt_of_cell? _ _ p1_2.1
        have lt2 := World.block_lt_of_cell? _ _ p2_2.1
        have le3 := hb2.size
        have hb2 := hb2.alloc hb2.size (.cells #[.string (alo), .string (ahi)] 31)
        have p0_2 := p0_2.below (below_new _ (.cells #[.string (alo), .string (ahi)] 31))
        have p1_2 := p1_2.below (below_new _ (.cells #[.string (alo), .string (ahi)] 31))
        have p2_2 := p2_2.below (below_new _ (.cells #[.string (alo), .string (ahi)] 31))
        have p3_2 := pair_new w2 (alo) (ahi) 31
        go_wp2_with fail
        refine (lowR_is alo blo _ HL.out _).mono ?_
        rintro e w3 ⟨rfl, h3⟩
        have hb3 := hb2.trans (h3.mono hb2.size)
        have p0_3 := p0_2.below h3
        have c0_3 := p0_3.1
        have d0_3 := p0_3.2.1
        have f0_3 := p0_3.2.2.1
        have g0_3 := p0_3.2.2.2
        have p1_3 := p1_2.below h3
        have c1_3 := p1_3.1
        have d1_3 := p1_3.2.1
        have f1_3 := p1_3.2.2.1
        have g1_3 := p1_3.2.2.2
        have p2_3 := p2_2.below h3
        have c2_3 := p2_3.1
        have d2_3 := p2_3.2.1
        have f2_3 := p2_3.2.2.1
        have g2_3 := p2_3.2.2.2
        have p3_3 := p3_2.below h3
        have c3_3 := p3_3.1
        have d3_3 := p3_3.2.1
        have f3_3 := p3_3.2.2.1
        have g3_3 := p3_3.2.2.2
        have hb3 := hb3.setCell (p := ⟨w2.heap.size, 0, none⟩) le3 (.string blo)
        have p0_3 := p0_3.other (Nat.ne_of_lt lt0) 0 (.string blo)
        have p1_3 := p1_3.other (Nat.ne_of_lt lt1) 0 (.string blo)
        have p2_3 := p2_3.other (Nat.ne_of_lt lt2) 0 (.string blo)
        have p3_3 := p3_3.set0 blo
        have c0_3 := p0_3.1
        have d0_3 := p0_3.2.1
        have f0_3 := p0_3.2.2.1
        have g0_3 := p0_3.2.2.2
        have c1_3 := p1_3.1
        have d1_3 := p1_3.2.1
        have f1_3 := p1_3.2.2.1
        have g1_3 := p1_3.2.2.2
        have c2_3 := p2_3.1
        have d2_3 := p2_3.2.1
        have f2_3 := p2_3.2.2.1
        have g2_3 := p2_3.2.2.2
        have c3_3 := p3_3.1
        have d3_3 := p3_3.2.1
        have f3_3 := p3_3.2.2.1
        have g3_3 := p3_3.2.2.2
        go_wp2_with fail
        refine (highR_is ahi bhi _ HH.out _).mono ?_
        rintro e w4 ⟨rfl, h4⟩
        have hb4 := hb3.trans (h4.mono hb3.size)
        have p0_4 := p0_3.below h4
        have c0_4 := p0_4.1
        have d0_4 := p0_4.2.1
        have f0_4 := p0_4.2.2.1
        have g0_4 := p0_4.2.2.2
        have p1_4 := p1_3.below h4
        have c1_4 := p1_4.1
        have d1_4 := p1_4.2.1
        have f1_4 := p1_4.2.2.1
        have g1_4 := p1_4.2.2.2
        have p2_4 := p2_3.below h4
        have c2_4 := p2_4.1
        have d2_4 := p2_4.2.1
        have f2_4 := p2_4.2.2.1
        have g2_4 := p2_4.2.2.2
        have p3_4 := p3_3.below h4
        have c3_4 := p3_4.1
        have d3_4 := p3_4.2.1
        have f3_4 := p3_4.2.2.1
        have g3_4 := p3_4.2.2.2
        have hb4 := hb4.setCell (p := ⟨w2.heap.size, 1, none⟩) le3 (.string bhi)
        have p0_4 := p0_4.other (Nat.ne_of_lt lt0) 1 (.string bhi)
        have p1_4 := p1_4.other (Nat.ne_of_lt lt1) 1 (.string bhi)
        have p2_4 := p2_4.other (Nat.ne_of_lt lt2) 1 (.string bhi)
        have p3_4 := p3_4.set1 bhi
        have c0_4 := p0_4.1
        have d0_4 := p0_4.2.1
        have f0_4 := p0_4.2.2.1
        have g0_4 := p0_4.2.2.2
        have c1_4 := p1_4.1
        have d1_4 := p1_4.2.1
        have f1_4 := p1_4.2.2.1
        have g1_4 := p1_4.2.2.2
        have c2_4 := p2_4.1
        have d2_4 := p2_4.2.1
        have f2_4 := p2_4.2.2.1
        have g2_4 := p2_4.2.2.2
        have c3_4 := p3_4.1
        have d3_4 := p3_4.2.1
        have f3_4 := p3_4.2.2.1
        have g3_4 := p3_4.2.2.2
        go_wp2_with fail
        refine (spanMay_is blo bhi _ HS.out _).mono ?_
        rintro e w5 ⟨rfl, h5⟩
        have hb5 := hb4.trans (h5.mono hb4.size)
        have p0_5 := p0_4.below h5
        have c0_5 := p0_5.1
        have d0_5 := p0_5.2.1
        have f0_5 := p0_5.2.2.1
        have g0_5 := p0_5.2.2.2
        have p1_5 := p1_4.below h5
        have c1_5 := p1_5.1
        have d1_5 := p1_5.2.1
        have f1_5 := p1_5.2.2.1
        have g1_5 := p1_5.2.2.2
        have p2_5 := p2_4.below h5
        have c2_5 := p2_5.1
        have d2_5 := p2_5.2.1
        have f2_5 := p2_5.2.2.1
        have g2_5 := p2_5.2.2.2
        have p3_5 := p3_4.below h5
        have c3_5 := p3_5.1
        have d3_5 := p3_5.2.1
        have f3_5 := p3_5.2.2.1
        have g3_5 := p3_5.2.2.2
        go_wp2
        refine bodyPost_ret (v := .tuple #[.agg #[.string (blo), .string (bhi)], .bool true]) (by simp [results, Tryz.results39, go_sem, c2_5, d2_5, World.cell?_setCell_same']) rfl ⟨rfl, (hb5.setCell (p := ⟨w.heap.size + 2, 0, none⟩) (Nat.le_add_right _ _) _).setCell (p := ⟨w.heap.size + 2, 1, none⟩) (Nat.le_add_right _ _) _⟩

end Go.Proofs.YtdijkekglaimfaaGreatDoor.Ver
