/- The chapter's example; LexLines' walk. -/
import Derived.Test.YtbgamneoghhfpaaDoorLxSame
namespace Go.Proofs.YtbgamneoghhfpaaDoor.Lx
open Go.RowKit

theorem lines_fix (w : World) : Calls Tryd.prog 8 #[.string fixS] w fun e w' => ∃ (b d c c2 : Nat), e = .returned (.tuple #[.slice (some ⟨b, 0, none⟩) 1 c, .agg #[.int .i64 0, .int .i64 0], .int .i64 0]) ∧ b < w'.heap.size ∧ d < w'.heap.size ∧
    (w'.cell? ⟨b, 0, none⟩ = some (.int .i64 1) ∧ w'.cell? ⟨b, 1, none⟩ = some (.slice (some ⟨d, 0, none⟩) 2 c2) ∧ w'.cell? ⟨d, 2, none⟩ = some (.int .i64 4) ∧ w'.cell? ⟨d, 3, none⟩ = some (.string ⟨#[98, 99]⟩)) ∧ Below w.heap.size w w' := by
  refine (lines_any fixS w).mono ?_
  rw [fix_lex]
  rintro e w' ⟨A, n, cap, us, rfl, hn, hown, hb⟩
  obtain ⟨A', L, c', e, hL, h1, h2, h3⟩ := hown.lines.open'
  injection e with e1 e2 e3
  subst e1; subst e2; subst e3
  have hn1 : n = 1 := hn
  subst hn1
  obtain ⟨b, rfl, hlt, hc⟩ := h3 (by omega)
  obtain ⟨q0, u, q1, q2⟩ := hc 0 (by omega)
  obtain ⟨B, L2, c2, rfl, hL2, g1, g2, g3⟩ := q2.open'
  have hl2 : L2 = 2 := hL2
  subst hl2
  obtain ⟨d, rfl, hlt2, hd⟩ := g3 (by omega)
  obtain ⟨r0, r1⟩ := hd 1 (by omega)
  exact ⟨b, d, cap, c2, rfl, hlt, hlt2, ⟨q0, q1, r0, r1⟩, hb⟩

set_option maxRecDepth 100000 in
set_option maxHeartbeats 1600000 in
theorem fixed_any (w : World) : Calls Tryd.prog 7 #[] w fun e w' => e = .returned (.bool true) ∧ Below w.heap.size w w' := by
  go_enter Tryd.func7, Tryd.ntmps7
  go_wp2_with fail
  refine (lines_fix w).mono ?_
  rintro e w1 ⟨b, d, c, c2, rfl, hb, hd, ⟨c0, c1, d2, d3⟩, hbw⟩
  have HB := Lib.hid hbw
  have c0' := cell_alloc_l (.cells #[.int .i64 0, .int .i64 0] 25) c0
  have c1' := cell_alloc_l (.cells #[.int .i64 0, .int .i64 0] 25) c1
  have d2' := cell_alloc_l (.cells #[.int .i64 0, .int .i64 0] 25) d2
  have d3' := cell_alloc_l (.cells #[.int .i64 0, .int .i64 0] 25) d3
  clear hbw c0 c1 d2 d3
  go_wp2
  go_ret
  exact ⟨rfl, HB.out.alloc HB.out.size _⟩

/-- A result's numbers and lines. -/
def codeR : Sum (Nat × Nat × Nat) (List Line) → Nat × Nat × Nat × List Line
  | .inl (a, c, x) => (a, c, x, [])
  | .inr ls => (0, 0, 0, ls)
theorem nil_lines (w : World) : Lines w (.slice none 0 0) [] := ⟨none, 0, rfl, Nat.le_refl _, by simp [maxLen], fun h => by simp at h⟩

theorem lines_uni (s : ByteArray) (w : World) (a c x : Nat) (ls : List Line) (h : codeR (lexS s) = (a, c, x, ls)) :
    Calls Tryd.prog 8 #[.string s] w fun e w' => ∃ A n cap, e = .returned (.tuple #[.slice A n cap, .agg #[.int .i64 (a : Nat), .int .i64 (c : Nat)], .int .i64 (x : Nat)]) ∧ Lines w' (.slice A n cap) ls ∧ Below w.heap.size w w' := by
  refine (lines_any s w).mono ?_
  generalize lexS s = R at h
  match R, h with
  | .inl (a', c', x'), h =>
    simp only [codeR, Prod.mk.injEq] at h
    obtain ⟨rfl, rfl, rfl, rfl⟩ := h
    rintro e w' ⟨rfl, hb⟩
    exact ⟨none, 0, 0, rfl, nil_lines _, hb⟩
  | .inr l', h =>
    simp only [codeR, Prod.mk.injEq] at h
    obtain ⟨rfl, rfl, rfl, rfl⟩ := h
    rintro e w' ⟨A, n, cap, us, rfl, hn, hown, hb⟩
    exact ⟨A, n, cap, rfl, hown.lines, hb⟩
theorem ref_uni (s : ByteArray) (w : World) (a c x : Nat) (ls : List Line) (h : codeR (lexS s) = (a, c, x, ls)) :
    Calls Tryd.prog 9 #[.string s] w fun e w' => ∃ A n cap, e = .returned (.agg #[.slice A n cap, .int .i64 (a : Nat), .int .i64 (c : Nat), .int .i64 (x : Nat)]) ∧ Lines w' (.slice A n cap) ls ∧ Below w.heap.size w w' := by
  refine (refLines_any s w).mono ?_
  generalize lexS s = R at h
  match R, h with
  | .inl (a', c', x'), h =>
    simp only [codeR, Prod.mk.injEq] at h
    obtain ⟨rfl, rfl, rfl, rfl⟩ := h
    rintro e w' ⟨rfl, hb⟩
    exact ⟨none, 0, 0, rfl, nil_lines _, hb⟩
  | .inr l', h =>
    simp only [codeR, Prod.mk.injEq] at h
    obtain ⟨rfl, rfl, rfl, rfl⟩ := h
    rintro e w' ⟨A, n, cap, us, rfl, hn, hown, hb⟩
    exact ⟨A, n, cap, rfl, hown.lines, hb⟩

set_option maxRecDepth 100000 in
set_option maxHeartbeats 1600000 in
theorem lexLines_any (s : ByteArray) (hs : s.size ≤ maxLen) (w : World) :
    Calls Tryd.prog 3 #[.string s] w fun e w' => e = .returned (.bool true) ∧ Below w.heap.size w w' := by
  unfold maxLen at hs
  by_cases h : 70000 < s.size
  · have h' : (70000 : Int) < (s.size : Int) := by omega
    go_enter Tryd.func3, Tryd.ntmps3
    go_wp2_with fail
    refine (fixed_any _).mono ?_
    rintro e w1 ⟨rfl, hb⟩
    go_wp2
    go_ret
    exact ⟨rfl, hb⟩
  · have h' : ¬ (70000 : Int) < (s.size : Int) := by omega
    obtain ⟨a, c, x, ls, hcode⟩ : ∃ a c x ls, codeR (lexS s) = (a, c, x, ls) := ⟨_, _, _, _, rfl⟩
    have HC := Lib.hid hcode
    clear hcode
    go_enter Tryd.func3, Tryd.ntmps3
    go_wp2_with fail
    refine (lines_uni s w a c x ls HC.out).mono ?_
    rintro e w1 ⟨A, n, cap, rfl, hl, hb⟩
    have HL := Lib.hid hl
    have HB1 := Lib.hid hb
    clear hl hb
    go_wp2_with fail
    refine (ref_uni s _ a c x ls HC.out).mono ?_
    rintro e w2 ⟨A2, n2, cap2, rfl, hl2, hb2⟩
    have hA := (Below.refl w1.heap.size w1).alloc (Nat.le_refl _) (.cells #[.int .i64 (a : Nat), .int .i64 (c : Nat)] 25)
    have p4 := heap_below (heap_alloc_new w1 (.cells #[.int .i64 (a : Nat), .int .i64 (c : Nat)] 25)) hb2
    have h12 := hA.trans (hb2.mono (by simp))
    have hB := (Below.refl w2.heap.size w2).alloc (Nat.le_refl _) (.cells #[.slice A2 n2 cap2, .int .i64 (a : Nat), .int .i64 (c : Nat), .int .i64 (x : Nat)] 30)
    have p4' := heap_below p4 hB
    have p6 := heap_alloc_new w2 (.cells #[.slice A2 n2 cap2, .int .i64 (a : Nat), .int .i64 (c : Nat), .int .i64 (x : Nat)] 30)
    have h13 := h12.trans (hB.mono h12.size)
    have HL3 := Lib.hid (HL.out.below h13 (Nat.le_refl _))
    have HM3 := Lib.hid (hl2.below hB (Nat.le_refl _))
    have HB3 := Lib.hid (HB1.out.trans (h13.mono HB1.out.size))
    have P4 := Lib.hid p4'
    have P6 := Lib.hid p6
    clear hl2 hb2 hA p4 h12 hB p4' p6 h13
    go_wp2_with fail
    refine (fixed_any _).mono ?_
    rintro e w3 ⟨rfl, hb3⟩
    have r4 := heap_below P4.out hb3
    have r6 := heap_below P6.out hb3
    have HL4 := Lib.hid (HL3.out.below hb3 (Nat.le_refl _))
    have HM4 := Lib.hid (HM3.out.below hb3 (Nat.le_refl _))
    have HB4 := Lib.hid (HB3.out.trans (hb3.mono HB3.out.size))
    have c0 := cells_get r4 0 (v := .int .i64 (a : Nat)) rfl
    have c1 := cells_get r4 1 (v := .int .i64 (c : Nat)) rfl
    have d0 := cells_get r6 0 (v := .slice A2 n2 cap2) rfl
    have d1 := cells_get r6 1 (v := .int .i64 (a : Nat)) rfl
    have d2 := cells_get r6 2 (v := .int .i64 (c : Nat)) rfl
    have d3 := cells_get r6 3 (v := .int .i64 (x : Nat)) rfl
    have e1 : ((x : Int) == (x : Int)) = true := by simp
    have e2 : ((a : Int) == (a : Int)) = true := by simp
    have e3 : ((c : Int) == (c : Int)) = true := by simp
    clear hb3 r4 r6
    go_wp2_with fail
    refine (same_any _ _ _ ls HL4.out HM4.out).mono ?_
    rintro e w5 ⟨rfl, hb5⟩
    have HB5 := Lib.hid (HB4.out.trans (hb5.mono HB4.out.size))
    clear hb5 c0 c1 d0 d1 d2 d3
    go_wp2
    go_ret
    exact ⟨rfl, HB5.out⟩

end Go.Proofs.YtbgamneoghhfpaaDoor.Lx
