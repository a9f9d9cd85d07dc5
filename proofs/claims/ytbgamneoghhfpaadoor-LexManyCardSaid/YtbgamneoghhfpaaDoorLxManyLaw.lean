/- LexMany's walk. -/
import Derived.Test.YtbgamneoghhfpaaDoorLxLaw
import Derived.Test.YtbgamneoghhfpaaDoorLxManyMath
namespace Go.Proofs.YtbgamneoghhfpaaDoor.Lx
open Go.RowKit

theorem u16_nat {a : Int} (h : (Lit.int .u16 a).wf = true) : ∃ n : Nat, a = n ∧ n ≤ 65535 := by
  have : 0 ≤ a ∧ a ≤ 65535 := by
    have h' : (decide (0 ≤ a) && decide (a ≤ 65535)) = true := h
    simpa using h'
  exact ⟨a.toNat, by omega, by omega⟩

theorem row_many {n : Nat} (h : 40 < n) (h2 : n < 50) : codeR (lexS (rowB n)) = (1, 81, 4, []) := by
  have e := row_sum h2
  unfold rowWant at e
  rw [if_pos h] at e
  generalize lexS (rowB n) = R at e ⊢
  match R, e with
  | .inl (a, c, x), e => simp [sumR] at e; simp [codeR, e]
  | .inr ls, e => simp [sumR] at e
theorem row_few {n : Nat} (h : ¬ 40 < n) : ∃ ls, codeR (lexS (rowB n)) = (0, 0, 0, ls) ∧ ls.length = (if n = 0 then 0 else 1) ∧ (n ≠ 0 → ∃ z, ls = [z] ∧ z.2.length = n) := by
  have e := row_sum (n := n) (by omega)
  unfold rowWant at e
  rw [if_neg h] at e
  generalize lexS (rowB n) = R at e ⊢
  match R, e with
  | .inl (a, c, x), e =>
    simp only [sumR, Prod.mk.injEq] at e
    obtain ⟨rfl, rfl, rfl, e1, e2⟩ := e
    subst e2
    exact ⟨[], rfl, by simp, fun h => absurd rfl h⟩
  | .inr ls, e =>
    simp only [sumR, Prod.mk.injEq, true_and] at e
    refine ⟨ls, rfl, e.1, fun h0 => ?_⟩
    rw [if_neg h0] at e
    obtain ⟨z, rfl⟩ := List.length_eq_one_iff.1 e.1
    exact ⟨z, rfl, by simpa using e.2⟩
theorem all_few' {m : Nat} (h : ¬ 2000 < m) : ∃ ls, codeR (lexS (allB m)) = (0, 0, 0, ls) ∧ ls.length = m := by
  obtain ⟨ls, e, h2⟩ := all_few (m := m) (by omega)
  exact ⟨ls, by rw [e]; rfl, h2⟩
theorem all_many' {m : Nat} (h : 2000 < m) (h2 : m < 2010) : codeR (lexS (allB m)) = (4002, 2, 4, []) := by
  rw [all_many h h2]; rfl
theorem Lines.num {w : World} {A : Option Addr} {n c : Nat} {ls : List Line} (h : Lines w (.slice A n c) ls) : n = ls.length := by
  obtain ⟨A', c', e, _⟩ := h
  injection e with e1 e2 e3
theorem set2_get {w : World} {b : Nat} {x y u v : Value} {t : TypeId} (h : w.heap[b]? = some (.cells #[x, y] t (0, 0))) :
    ((w.setCell ⟨b, 0, none⟩ u).setCell ⟨b, 1, none⟩ v).cell? ⟨b, 0, none⟩ = some u ∧ ((w.setCell ⟨b, 0, none⟩ u).setCell ⟨b, 1, none⟩ v).cell? ⟨b, 1, none⟩ = some v := by
  have r0 := cells_get h 0 (v := x) rfl
  have r1 := cells_get h 1 (v := y) rfl
  constructor <;> simp [World.cell?_setCell_same', go_sem, r0, r1]

set_option maxRecDepth 100000 in
set_option maxHeartbeats 1600000 in
theorem lexMany_any (a : Int) (wa : (Lit.int .u16 a).wf = true) (b : Int) (wb : (Lit.int .u16 b).wf = true) (w : World) :
    Calls Tryd.prog 5 #[.int .u16 a, .int .u16 b] w fun e w' => e = .returned (.bool true) ∧ Below w.heap.size w w' := by
  obtain ⟨na, rfl, hna⟩ := u16_nat wa
  obtain ⟨nb, rfl, hnb⟩ := u16_nat wb
  have t1 : (na : Int).tmod 50 = ((na % 50 : Nat) : Int) := rfl
  have t2 : (nb : Int).tmod 2010 = ((nb % 2010 : Nat) : Int) := rfl
  have hn : na % 50 < 50 := Nat.mod_lt _ (by decide)
  have hm : nb % 2010 < 2010 := Nat.mod_lt _ (by decide)
  generalize na % 50 = n at t1 hn
  generalize nb % 2010 = m at t2 hm
  go_enter Tryd.func5, Tryd.ntmps5
  go_wp2
  clear t1 t2 hna hnb wa wb
  go_loopw [7, 19] (fun s i wr => ∃ k : Nat, k ≤ n ∧ i = .int .i64 k ∧ s = .string (rowB k) ∧ w = wr) (fun _ i _ => n - (intOf i).toNat)
  case atStart => exact ⟨0, Nat.zero_le _, rfl, rfl, rfl⟩
  case round =>
    obtain ⟨k, hk, rfl, rfl, rfl⟩ := hrel
    have hz := rowB_size k
    by_cases hlt : k < n
    · have hadd := run_string_add_sum (P := Tryd.prog) w (rowB k) ⟨#[97, 32]⟩ (by rw [hz]; show 2 * k + 2 ≤ _; omega)
      go_wp2
      go_roundw
      case rel => exact ⟨k + 1, by omega, by go_num, rfl, by first | rfl | trivial⟩
      case measure => simp [intOf]; omega
    · obtain rfl : k = n := by omega
      by_cases h40 : 40 < k
      · have HC := Lib.hid (row_many h40 hn)
        have g40 : (40 : Int) < (k : Int) := by omega
        clear hz hk hlt
        go_wp2_with fail
        refine (lines_uni (rowB k) w 1 81 4 [] HC.out).mono ?_
        rintro e w1 ⟨A, n1, cap, rfl, hl, hb⟩
        obtain rfl : n1 = 0 := hl.num
        have hb0 : w.heap.size ≤ w1.heap.size := hb.size
        have HBB := Lib.hid hb0
        have hpp : (w1.alloc (.cells #[.int .i64 1, .int .i64 81] 25)).heap[w1.heap.size]? = some (.cells #[.int .i64 1, .int .i64 81] 25 (0, 0)) := heap_alloc_new w1 _
        have HP := Lib.hid (show ∃ x y : Int, (w1.alloc (.cells #[.int .i64 1, .int .i64 81] 25)).heap[w1.heap.size]? = some (.cells #[.int .i64 x, .int .i64 y] 25 (0, 0)) from ⟨_, _, hpp⟩)
        have HB := Lib.hid (hb.alloc hb0 (.cells #[.int .i64 1, .int .i64 81] 25))
        clear hl hb hb0
        have hpp0 := cells_get hpp 0 (v := .int .i64 1) rfl
        have hpp1 := cells_get hpp 1 (v := .int .i64 81) rfl
        clear hpp
        go_wp2
        clear hpp0 hpp1
        go_loopw [8, 65] (fun s i wx => ∃ q : Nat, q ≤ m ∧ i = .int .i64 q ∧ s = .string (allB q) ∧ (∃ x y : Int, wx.heap[w1.heap.size]? = some (.cells #[.int .i64 x, .int .i64 y] 25 (0, 0))) ∧ Below w.heap.size w wx) (fun _ i _ => m - (intOf i).toNat)
        case atStart => exact ⟨0, Nat.zero_le _, rfl, rfl, HP.out, HB.out⟩
        case round =>
          obtain ⟨q, hq, rfl, rfl, hp, hbx⟩ := hrel
          have hz := allB_size q
          have HBX := Lib.hid hbx
          have HPX := Lib.hid hp
          clear hp hbx
          by_cases hlt2 : q < m
          · have hadd := run_string_add_sum (P := Tryd.prog) wr (allB q) ⟨#[10, 32, 98, 10]⟩ (by rw [hz]; show 4 * q + 4 ≤ _; omega)
            go_wp2
            go_roundw
            case rel => exact ⟨q + 1, by omega, by go_num, rfl, HPX.out, HBX.out⟩
            case measure => simp [intOf]; omega
          · obtain rfl : q = m := by omega
            by_cases h2000 : 2000 < q
            · have HD := Lib.hid (all_many' h2000 hm)
              have g2000 : (2000 : Int) < (q : Int) := by omega
              clear hz
              go_wp2_with fail
              refine (lines_uni (allB q) wr 4002 2 4 [] HD.out).mono ?_
              rintro e w3 ⟨A3, n3, c3, rfl, hl3, hb3⟩
              obtain rfl : n3 = 0 := hl3.num
              obtain ⟨x, y, hp⟩ := HPX.out
              have rc := heap_below hp hb3
              have r0 := cells_get rc 0 (v := .int .i64 x) rfl
              have r1 := cells_get rc 1 (v := .int .i64 y) rfl
              have f0 := cells_free rc 0
              have f1 := cells_free rc 1
              have lrc := lt_of_heap rc
              have s2 := set2_get (u := .int .i64 4002) (v := .int .i64 2) rc
              have S0 := Lib.hid s2.1
              have S1 := Lib.hid s2.2
              have HB3 := Lib.hid (((HBX.out.trans (hb3.mono HBX.out.size)).setCell (p := ⟨w1.heap.size, 0, none⟩) HBB.out (.int .i64 4002)).setCell (p := ⟨w1.heap.size, 1, none⟩) HBB.out (.int .i64 2))
              clear hl3 hb3 rc hp s2
              go_wp2_with fail
              refine (fixed_any _).mono ?_
              rintro e w4 ⟨rfl, hb4⟩
              have z0 := (hb4.cell (p := ⟨w1.heap.size, 0, none⟩) (by simpa using lrc)).trans S0.out
              have z1 := (hb4.cell (p := ⟨w1.heap.size, 1, none⟩) (by simpa using lrc)).trans S1.out
              have HB4 := Lib.hid (HB3.out.trans (hb4.mono HB3.out.size))
              clear hb4 r0 r1
              go_wp2
              go_ret
              exact ⟨rfl, HB4.out⟩
            · obtain ⟨ls3, hd, hls3⟩ := all_few' h2000
              have HD := Lib.hid hd
              have HLS := Lib.hid hls3
              have g2000 : ¬ (2000 : Int) < (q : Int) := by omega
              clear hz hd hls3
              go_wp2_with fail
              refine (lines_uni (allB q) wr 0 0 0 ls3 HD.out).mono ?_
              rintro e w3 ⟨A3, n3, c3, rfl, hl3, hb3⟩
              obtain rfl : n3 = q := hl3.num.trans HLS.out
              obtain ⟨x, y, hp⟩ := HPX.out
              have rc := heap_below hp hb3
              have r0 := cells_get rc 0 (v := .int .i64 x) rfl
              have r1 := cells_get rc 1 (v := .int .i64 y) rfl
              have f0 := cells_free rc 0
              have f1 := cells_free rc 1
              have lrc := lt_of_heap rc
              have eqq : ((n3 : Int) == (n3 : Int)) = true := by simp
              have HB3 := Lib.hid (((HBX.out.trans (hb3.mono HBX.out.size)).setCell (p := ⟨w1.heap.size, 0, none⟩) HBB.out (.int .i64 0)).setCell (p := ⟨w1.heap.size, 1, none⟩) HBB.out (.int .i64 0))
              clear hl3 hb3 rc hp
              go_wp2_with fail
              refine (fixed_any _).mono ?_
              rintro e w4 ⟨rfl, hb4⟩
              have HB4 := Lib.hid (HB3.out.trans (hb4.mono HB3.out.size))
              clear hb4 r0 r1
              go_wp2
              go_ret
              exact ⟨rfl, HB4.out⟩
      · obtain ⟨ls, hc, hls, hone⟩ := row_few h40
        have HC := Lib.hid hc
        have g40 : ¬ (40 : Int) < (k : Int) := by omega
        have HLS := Lib.hid hls
        have HONE := Lib.hid hone
        clear hz hk hlt hc hls hone
        go_wp2_with fail
        refine (lines_uni (rowB k) w 0 0 0 ls HC.out).mono ?_
        rintro e w1 ⟨A, n1, cap, rfl, hl, hb⟩
        have hn1 := hl.num.trans HLS.out
        have hb0 : w.heap.size ≤ w1.heap.size := hb.size
        have HBB := Lib.hid hb0
        have hpp : (w1.alloc (.cells #[.int .i64 0, .int .i64 0] 25)).heap[w1.heap.size]? = some (.cells #[.int .i64 0, .int .i64 0] 25 (0, 0)) := heap_alloc_new w1 _
        have HP := Lib.hid (show ∃ x y : Int, (w1.alloc (.cells #[.int .i64 0, .int .i64 0] 25)).heap[w1.heap.size]? = some (.cells #[.int .i64 x, .int .i64 y] 25 (0, 0)) from ⟨_, _, hpp⟩)
        have HB := Lib.hid (hb.alloc hb0 (.cells #[.int .i64 0, .int .i64 0] 25))
        clear hpp
        by_cases h0 : k = 0
        · subst h0
          obtain rfl : n1 = 0 := by simpa using hn1
          clear hn1
          clear hl hb hb0
          go_wp2
          go_loopw [8, 65] (fun s i wx => ∃ q : Nat, q ≤ m ∧ i = .int .i64 q ∧ s = .string (allB q) ∧ (∃ x y : Int, wx.heap[w1.heap.size]? = some (.cells #[.int .i64 x, .int .i64 y] 25 (0, 0))) ∧ Below w.heap.size w wx) (fun _ i _ => m - (intOf i).toNat)
          case atStart => exact ⟨0, Nat.zero_le _, rfl, rfl, HP.out, HB.out⟩
          case round =>
            obtain ⟨q, hq, rfl, rfl, hp, hbx⟩ := hrel
            have hz := allB_size q
            have HBX := Lib.hid hbx
            have HPX := Lib.hid hp
            clear hp hbx
            by_cases hlt2 : q < m
            · have hadd := run_string_add_sum (P := Tryd.prog) wr (allB q) ⟨#[10, 32, 98, 10]⟩ (by rw [hz]; show 4 * q + 4 ≤ _; omega)
              go_wp2
              go_roundw
              case rel => exact ⟨q + 1, by omega, by go_num, rfl, HPX.out, HBX.out⟩
              case measure => simp [intOf]; omega
            · obtain rfl : q = m := by omega
              by_cases h2000 : 2000 < q
              · have HD := Lib.hid (all_many' h2000 hm)
                have g2000 : (2000 : Int) < (q : Int) := by omega
                clear hz
                go_wp2_with fail
                refine (lines_uni (allB q) wr 4002 2 4 [] HD.out).mono ?_
                rintro e w3 ⟨A3, n3, c3, rfl, hl3, hb3⟩
                obtain rfl : n3 = 0 := hl3.num
                obtain ⟨x, y, hp⟩ := HPX.out
                have rc := heap_below hp hb3
                have r0 := cells_get rc 0 (v := .int .i64 x) rfl
                have r1 := cells_get rc 1 (v := .int .i64 y) rfl
                have f0 := cells_free rc 0
                have f1 := cells_free rc 1
                have lrc := lt_of_heap rc
                have s2 := set2_get (u := .int .i64 4002) (v := .int .i64 2) rc
                have S0 := Lib.hid s2.1
                have S1 := Lib.hid s2.2
                have HB3 := Lib.hid (((HBX.out.trans (hb3.mono HBX.out.size)).setCell (p := ⟨w1.heap.size, 0, none⟩) HBB.out (.int .i64 4002)).setCell (p := ⟨w1.heap.size, 1, none⟩) HBB.out (.int .i64 2))
                clear hl3 hb3 rc hp s2
                go_wp2_with fail
                refine (fixed_any _).mono ?_
                rintro e w4 ⟨rfl, hb4⟩
                have z0 := (hb4.cell (p := ⟨w1.heap.size, 0, none⟩) (by simpa using lrc)).trans S0.out
                have z1 := (hb4.cell (p := ⟨w1.heap.size, 1, none⟩) (by simpa using lrc)).trans S1.out
                have HB4 := Lib.hid (HB3.out.trans (hb4.mono HB3.out.size))
                clear hb4 r0 r1
                go_wp2
                go_ret
                exact ⟨rfl, HB4.out⟩
              · obtain ⟨ls3, hd, hls3⟩ := all_few' h2000
                have HD := Lib.hid hd
                have HLS := Lib.hid hls3
                have g2000 : ¬ (2000 : Int) < (q : Int) := by omega
                clear hz hd hls3
                go_wp2_with fail
                refine (lines_uni (allB q) wr 0 0 0 ls3 HD.out).mono ?_
                rintro e w3 ⟨A3, n3, c3, rfl, hl3, hb3⟩
                obtain rfl : n3 = q := hl3.num.trans HLS.out
                obtain ⟨x, y, hp⟩ := HPX.out
                have rc := heap_below hp hb3
                have r0 := cells_get rc 0 (v := .int .i64 x) rfl
                have r1 := cells_get rc 1 (v := .int .i64 y) rfl
                have f0 := cells_free rc 0
                have f1 := cells_free rc 1
                have lrc := lt_of_heap rc
                have eqq : ((n3 : Int) == (n3 : Int)) = true := by simp
                have HB3 := Lib.hid (((HBX.out.trans (hb3.mono HBX.out.size)).setCell (p := ⟨w1.heap.size, 0, none⟩) HBB.out (.int .i64 0)).setCell (p := ⟨w1.heap.size, 1, none⟩) HBB.out (.int .i64 0))
                clear hl3 hb3 rc hp
                go_wp2_with fail
                refine (fixed_any _).mono ?_
                rintro e w4 ⟨rfl, hb4⟩
                have HB4 := Lib.hid (HB3.out.trans (hb4.mono HB3.out.size))
                clear hb4 r0 r1
                go_wp2
                go_ret
                exact ⟨rfl, HB4.out⟩
        · obtain rfl : n1 = 1 := by simpa [h0] using hn1
          clear hn1
          obtain ⟨z, hz, hzl⟩ := HONE.out h0
          subst hz
          obtain ⟨A', L, c', e, hL, h1, h2, h3⟩ := hl.open'
          injection e with e1 e2 e3
          subst e1; subst e2; subst e3
          obtain ⟨bb, rfl, hbb, hcc⟩ := h3 (by omega)
          obtain ⟨q0, u, q1, q2⟩ := hcc 0 (by omega)
          obtain ⟨A2, L2, c2, rfl, hL2, g1, g2, g3⟩ := q2.open'
          obtain rfl : L2 = k := by rw [hL2]; exact hzl
          have q1' := cell_alloc_l (.cells #[.int .i64 0, .int .i64 0] 25) q1
          have gpos : (0 : Int) < (L2 : Int) := by omega
          have gne : ((L2 : Int) != (L2 : Int)) = false := by simp
          clear hl hb hb0 h3 hcc q0 q2 g3 hL hL2 hzl q1 HONE HLS
          go_wp2
          clear gne q1'
          go_loopw [8, 65] (fun s i wx => ∃ q : Nat, q ≤ m ∧ i = .int .i64 q ∧ s = .string (allB q) ∧ (∃ x y : Int, wx.heap[w1.heap.size]? = some (.cells #[.int .i64 x, .int .i64 y] 25 (0, 0))) ∧ Below w.heap.size w wx) (fun _ i _ => m - (intOf i).toNat)
          case atStart => exact ⟨0, Nat.zero_le _, rfl, rfl, HP.out, HB.out⟩
          case round =>
            obtain ⟨q, hq, rfl, rfl, hp, hbx⟩ := hrel
            have hz := allB_size q
            have HBX := Lib.hid hbx
            have HPX := Lib.hid hp
            clear hp hbx
            by_cases hlt2 : q < m
            · have hadd := run_string_add_sum (P := Tryd.prog) wr (allB q) ⟨#[10, 32, 98, 10]⟩ (by rw [hz]; show 4 * q + 4 ≤ _; omega)
              go_wp2
              go_roundw
              case rel => exact ⟨q + 1, by omega, by go_num, rfl, HPX.out, HBX.out⟩
              case measure => simp [intOf]; omega
            · obtain rfl : q = m := by omega
              by_cases h2000 : 2000 < q
              · have HD := Lib.hid (all_many' h2000 hm)
                have g2000 : (2000 : Int) < (q : Int) := by omega
                clear hz
                go_wp2_with fail
                refine (lines_uni (allB q) wr 4002 2 4 [] HD.out).mono ?_
                rintro e w3 ⟨A3, n3, c3, rfl, hl3, hb3⟩
                obtain rfl : n3 = 0 := hl3.num
                obtain ⟨x, y, hp⟩ := HPX.out
                have rc := heap_below hp hb3
                have r0 := cells_get rc 0 (v := .int .i64 x) rfl
                have r1 := cells_get rc 1 (v := .int .i64 y) rfl
                have f0 := cells_free rc 0
                have f1 := cells_free rc 1
                have lrc := lt_of_heap rc
                have s2 := set2_get (u := .int .i64 4002) (v := .int .i64 2) rc
                have S0 := Lib.hid s2.1
                have S1 := Lib.hid s2.2
                have HB3 := Lib.hid (((HBX.out.trans (hb3.mono HBX.out.size)).setCell (p := ⟨w1.heap.size, 0, none⟩) HBB.out (.int .i64 4002)).setCell (p := ⟨w1.heap.size, 1, none⟩) HBB.out (.int .i64 2))
                clear hl3 hb3 rc hp s2
                go_wp2_with fail
                refine (fixed_any _).mono ?_
                rintro e w4 ⟨rfl, hb4⟩
                have z0 := (hb4.cell (p := ⟨w1.heap.size, 0, none⟩) (by simpa using lrc)).trans S0.out
                have z1 := (hb4.cell (p := ⟨w1.heap.size, 1, none⟩) (by simpa using lrc)).trans S1.out
                have HB4 := Lib.hid (HB3.out.trans (hb4.mono HB3.out.size))
                clear hb4 r0 r1
                go_wp2
                go_ret
                exact ⟨rfl, HB4.out⟩
              · obtain ⟨ls3, hd, hls3⟩ := all_few' h2000
                have HD := Lib.hid hd
                have HLS := Lib.hid hls3
                have g2000 : ¬ (2000 : Int) < (q : Int) := by omega
                clear hz hd hls3
                go_wp2_with fail
                refine (lines_uni (allB q) wr 0 0 0 ls3 HD.out).mono ?_
                rintro e w3 ⟨A3, n3, c3, rfl, hl3, hb3⟩
                obtain rfl : n3 = q := hl3.num.trans HLS.out
                obtain ⟨x, y, hp⟩ := HPX.out
                have rc := heap_below hp hb3
                have r0 := cells_get rc 0 (v := .int .i64 x) rfl
                have r1 := cells_get rc 1 (v := .int .i64 y) rfl
                have f0 := cells_free rc 0
                have f1 := cells_free rc 1
                have lrc := lt_of_heap rc
                have eqq : ((n3 : Int) == (n3 : Int)) = true := by simp
                have HB3 := Lib.hid (((HBX.out.trans (hb3.mono HBX.out.size)).setCell (p := ⟨w1.heap.size, 0, none⟩) HBB.out (.int .i64 0)).setCell (p := ⟨w1.heap.size, 1, none⟩) HBB.out (.int .i64 0))
                clear hl3 hb3 rc hp
                go_wp2_with fail
                refine (fixed_any _).mono ?_
                rintro e w4 ⟨rfl, hb4⟩
                have HB4 := Lib.hid (HB3.out.trans (hb4.mono HB3.out.size))
                clear hb4 r0 r1
                go_wp2
                go_ret
                exact ⟨rfl, HB4.out⟩
end Go.Proofs.YtbgamneoghhfpaaDoor.Lx
