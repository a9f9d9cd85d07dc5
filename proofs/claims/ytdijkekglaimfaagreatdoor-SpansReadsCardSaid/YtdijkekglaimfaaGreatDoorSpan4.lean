/- span.Read; the chapter's example. -/
import Derived.Test.YtdijkekglaimfaaGreatDoorSpan3
namespace Go.Proofs.YtdijkekglaimfaaGreatDoor.Ver
open Go.RowKit

/-- The span of a text. -/
def sread (t : ByteArray) : ByteArray × ByteArray × Bool :=
  if Lib.indexB t ⟨#[58]⟩ = -1 then (if stext t t = t then (t, t, true) else (ByteArray.empty, ByteArray.empty, false))
  else if stext (t.extract 0 (Lib.indexB t ⟨#[58]⟩).toNat) (t.extract ((Lib.indexB t ⟨#[58]⟩).toNat + 1) t.size) = t
    then (t.extract 0 (Lib.indexB t ⟨#[58]⟩).toNat, t.extract ((Lib.indexB t ⟨#[58]⟩).toNat + 1) t.size, true) else (ByteArray.empty, ByteArray.empty, false)

set_option maxHeartbeats 1600000 in
theorem spanRead_is (t lo hi : ByteArray) (b : Bool) (h : sread t = (lo, hi, b)) (hl : t.size ≤ 50000) (w : World) :
    Calls Tryz.prog 11 #[.string t] w fun e w' => e = .returned (.tuple #[.agg #[.string lo, .string hi], .bool b]) ∧ Below w.heap.size w w' := by
  rcases index_room' (s := t) (c := 58) with h0 | ⟨i, h0, hi1⟩
  · unfold sread at h
    rw [if_pos h0] at h
    obtain ⟨tx, htx⟩ : ∃ tx, stext t t = tx := ⟨_, rfl⟩
    rw [htx] at h
    have Htx := Lib.hid htx
    have H0 := Lib.hid h0
    have hb0 := (below_new w (.cells #[.string ⟨#[]⟩, .string ⟨#[]⟩] 31)).trans ((below_new (w.alloc (.cells #[.string ⟨#[]⟩, .string ⟨#[]⟩] 31)) (.cells #[.string t, .string t] 31)).mono (by simp))
    have p0_0 := pair_new (w.alloc (.cells #[.string ⟨#[]⟩, .string ⟨#[]⟩] 31)) t t 31
    have p1_0 := (pair_new w ⟨#[]⟩ ⟨#[]⟩ 31).below (below_new (w.alloc (.cells #[.string ⟨#[]⟩, .string ⟨#[]⟩] 31)) (.cells #[.string t, .string t] 31))
    have hsz : (w.alloc (.cells #[.string ⟨#[]⟩, .string ⟨#[]⟩] 31)).heap.size = w.heap.size + 1 := by simp
    rw [hsz] at p0_0
    clear htx h0 hsz
    by_cases he : tx = t
    · rw [if_pos he] at h
      have g1 : (tx.toList == t.toList) = true := by rw [he]; simp
      injection h with h1 h2
      injection h2 with h2 h3
      subst h1; subst h2; subst h3
      clear he
      go_enter Tryz.func11, Tryz.ntmps11
      go_wp2_with fail
      refine (cut_miss t 58 _ H0.out).mono ?_
      rintro e w' ⟨rfl, rfl⟩
      go_wp2_with fail
      refine (spanText_is _ _ _ Htx.out (by omega) (by omega) _).mono ?_
      rintro e w1 ⟨rfl, h1⟩
      have hb1 := hb0.trans (h1.mono hb0.size)
      have p0_1 := p0_0.below h1
      have c0_1 := p0_1.1
      have d0_1 := p0_1.2.1
      have f0_1 := p0_1.2.2.1
      have g0_1 := p0_1.2.2.2
      have p1_1 := p1_0.below h1
      have c1_1 := p1_1.1
      have d1_1 := p1_1.2.1
      have f1_1 := p1_1.2.2.1
      have g1_1 := p1_1.2.2.2
      go_wp2
      refine bodyPost_ret (v := .tuple #[.agg #[.string t, .string t], .bool true]) (by simp [results, Tryz.results11, go_sem, c1_1, d1_1, World.cell?_setCell_same']) rfl ?_
      exact ⟨rfl, (hb1.setCell (p := ⟨w.heap.size, 0, none⟩) (Nat.le_refl _) _).setCell (p := ⟨w.heap.size, 1, none⟩) (Nat.le_refl _) _⟩
    · rw [if_neg he] at h
      have g1 : (tx.toList == t.toList) = false := by rw [beq_eq_false_iff_ne]; intro c; exact he (toList_eq.1 c)
      injection h with h1 h2
      injection h2 with h2 h3
      subst h1; subst h2; subst h3
      clear he
      go_enter Tryz.func11, Tryz.ntmps11
      go_wp2_with fail
      refine (cut_miss t 58 _ H0.out).mono ?_
      rintro e w' ⟨rfl, rfl⟩
      go_wp2_with fail
      refine (spanText_is _ _ _ Htx.out (by omega) (by omega) _).mono ?_
      rintro e w1 ⟨rfl, h1⟩
      have hb1 := hb0.trans (h1.mono hb0.size)
      have p0_1 := p0_0.below h1
      have c0_1 := p0_1.1
      have d0_1 := p0_1.2.1
      have f0_1 := p0_1.2.2.1
      have g0_1 := p0_1.2.2.2
      have p1_1 := p1_0.below h1
      have c1_1 := p1_1.1
      have d1_1 := p1_1.2.1
      have f1_1 := p1_1.2.2.1
      have g1_1 := p1_1.2.2.2
      go_wp2
      refine bodyPost_ret (v := .tuple #[.agg #[.string ⟨#[]⟩, .string ⟨#[]⟩], .bool false]) (by simp [results, Tryz.results11, go_sem, c1_1, d1_1, World.cell?_setCell_same']) rfl ?_
      exact ⟨rfl, (hb1.setCell (p := ⟨w.heap.size, 0, none⟩) (Nat.le_refl _) _).setCell (p := ⟨w.heap.size, 1, none⟩) (Nat.le_refl _) _⟩
  · unfold sread at h
    rw [if_neg (by rw [h0]; omega), h0, Int.toNat_natCast] at h
    have hs1 : (t.extract 0 i).size ≤ 50000 := by rw [ByteArray.size_extract]; omega
    have hs2 : (t.extract (i + 1) t.size).size ≤ 50000 := by rw [ByteArray.size_extract]; omega
    have Hcut := Lib.hid (fun w => cut_hit t 58 i w h0 hi1 (by unfold maxLen; omega))
    obtain ⟨x, hx⟩ : ∃ x, t.extract 0 i = x := ⟨_, rfl⟩
    obtain ⟨y, hy⟩ : ∃ y, t.extract (i + 1) t.size = y := ⟨_, rfl⟩
    rw [hx] at h hs1 Hcut
    rw [hy] at h hs2 Hcut
    obtain ⟨tx, htx⟩ : ∃ tx, stext x y = tx := ⟨_, rfl⟩
    rw [htx] at h
    have Htx := Lib.hid htx
    have hq : Below (w.alloc (.cells #[.string ⟨#[]⟩, .string ⟨#[]⟩] 31)).heap.size (w.alloc (.cells #[.string ⟨#[]⟩, .string ⟨#[]⟩] 31)) ((w.alloc (.cells #[.string ⟨#[]⟩, .string ⟨#[]⟩] 31)).drew.alloc (.cells #[.string x, .string y] 31)) :=
      ((Below.refl _ (w.alloc (.cells #[.string ⟨#[]⟩, .string ⟨#[]⟩] 31))).drew).alloc (Nat.le_refl (w.alloc (.cells #[.string ⟨#[]⟩, .string ⟨#[]⟩] 31)).heap.size) _
    have hb0 := (below_new w (.cells #[.string ⟨#[]⟩, .string ⟨#[]⟩] 31)).trans (hq.mono (by simp))
    have p0_0 : Pair ((w.alloc (.cells #[.string ⟨#[]⟩, .string ⟨#[]⟩] 31)).drew.alloc (.cells #[.string x, .string y] 31)) (w.heap.size + 1) x y := by
      have := pair_new (w.alloc (.cells #[.string ⟨#[]⟩, .string ⟨#[]⟩] 31)).drew x y 31
      have e : (w.alloc (.cells #[.string ⟨#[]⟩, .string ⟨#[]⟩] 31)).drew.heap.size = w.heap.size + 1 := by show (w.alloc (.cells #[.string ⟨#[]⟩, .string ⟨#[]⟩] 31)).heap.size = _; simp
      rwa [e] at this
    have p1_0 := (pair_new w ⟨#[]⟩ ⟨#[]⟩ 31).below hq
    clear htx h0 hi1 hx hy hq
    by_cases he : tx = t
    · rw [if_pos he] at h
      have g1 : (tx.toList == t.toList) = true := by rw [he]; simp
      injection h with h1 h2
      injection h2 with h2 h3
      subst h1; subst h2; subst h3
      clear he
      go_enter Tryz.func11, Tryz.ntmps11
      go_wp2_with fail
      refine (Hcut.out _).mono ?_
      rintro e w' ⟨rfl, rfl⟩
      go_wp2_with fail
      refine (spanText_is _ _ _ Htx.out (by omega) (by omega) _).mono ?_
      rintro e w1 ⟨rfl, h1⟩
      have hb1 := hb0.trans (h1.mono hb0.size)
      have p0_1 := p0_0.below h1
      have c0_1 := p0_1.1
      have d0_1 := p0_1.2.1
      have f0_1 := p0_1.2.2.1
      have g0_1 := p0_1.2.2.2
      have p1_1 := p1_0.below h1
      have c1_1 := p1_1.1
      have d1_1 := p1_1.2.1
      have f1_1 := p1_1.2.2.1
      have g1_1 := p1_1.2.2.2
      go_wp2
      refine bodyPost_ret (v := .tuple #[.agg #[.string x, .string y], .bool true]) (by simp [results, Tryz.results11, go_sem, c1_1, d1_1, World.cell?_setCell_same']) rfl ?_
      exact ⟨rfl, (hb1.setCell (p := ⟨w.heap.size, 0, none⟩) (Nat.le_refl _) _).setCell (p := ⟨w.heap.size, 1, none⟩) (Nat.le_refl _) _⟩
    · rw [if_neg he] at h
      have g1 : (tx.toList == t.toList) = false := by rw [beq_eq_false_iff_ne]; intro c; exact he (toList_eq.1 c)
      injection h with h1 h2
      injection h2 with h2 h3
      subst h1; subst h2; subst h3
      clear he
      go_enter Tryz.func11, Tryz.ntmps11
      go_wp2_with fail
      refine (Hcut.out _).mono ?_
      rintro e w' ⟨rfl, rfl⟩
      go_wp2_with fail
      refine (spanText_is _ _ _ Htx.out (by omega) (by omega) _).mono ?_
      rintro e w1 ⟨rfl, h1⟩
      have hb1 := hb0.trans (h1.mono hb0.size)
      have p0_1 := p0_0.below h1
      have c0_1 := p0_1.1
      have d0_1 := p0_1.2.1
      have f0_1 := p0_1.2.2.1
      have g0_1 := p0_1.2.2.2
      have p1_1 := p1_0.below h1
      have c1_1 := p1_1.1
      have d1_1 := p1_1.2.1
      have f1_1 := p1_1.2.2.1
      have g1_1 := p1_1.2.2.2
      go_wp2
      refine bodyPost_ret (v := .tuple #[.agg #[.string ⟨#[]⟩, .string ⟨#[]⟩], .bool false]) (by simp [results, Tryz.results11, go_sem, c1_1, d1_1, World.cell?_setCell_same']) rfl ?_
      exact ⟨rfl, (hb1.setCell (p := ⟨w.heap.size, 0, none⟩) (Nat.le_refl _) _).setCell (p := ⟨w.heap.size, 1, none⟩) (Nat.le_refl _) _⟩

end Go.Proofs.YtdijkekglaimfaaGreatDoor.Ver
