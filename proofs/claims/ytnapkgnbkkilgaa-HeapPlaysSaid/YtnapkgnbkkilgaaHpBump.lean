/- Bump, halving as often as is needed; Score. -/
import Derived.Test.YtnapkgnbkkilgaaHpHalve
namespace Go.Proofs.Ytnapkgnbkkilgaa.Hp
open Go.RowKit

def T62 : Nat := 4611686018427387904

/-- How often all scores are halved ahead of a bump by d of one with the score s. -/
def halv (d s : Nat) : Nat := if h : T62 < d ∨ T62 - d < s then halv (d / 2) (s / 2) + 1 else 0
termination_by d + s
decreasing_by
  have : T62 = 4611686018427387904 := rfl
  omega

theorem pow_step (x j : Nat) : x / 2 ^ j / 2 = x / 2 ^ (j + 1) := by rw [Nat.div_div_eq_div_mul, Nat.pow_succ]

theorem halv_yes {d s : Nat} (h : T62 < d ∨ T62 - d < s) : halv d s = halv (d / 2) (s / 2) + 1 := by rw [halv, dif_pos h]
theorem halv_no {d s : Nat} (h : ¬ (T62 < d ∨ T62 - d < s)) : halv d s = 0 := by rw [halv, dif_neg h]

def BumpW (w : World) (base B S P : Nat) (v : Value) (sc row : List Nat) (a d : Nat) (t : Value) (wr : World) : Prop :=
  ∃ (j : Nat) (sc' row' pl' : List Nat), t = .int .u64 ((d / 2 ^ j : Nat) : Int) ∧ Heap wr base B S P v sc' row' pl' ∧ sc'.length = sc.length ∧ (∀ b, at' sc' b = at' sc b / 2 ^ j) ∧ row'.Perm row ∧ Touch w wr (Foot S P v) ∧
    j + halv (d / 2 ^ j) (at' sc a / 2 ^ j) = halv d (at' sc a)

/-- What a bump makes of the scores. -/
def Bumped (sc : List Nat) (a d : Nat) (sc' : List Nat) : Prop :=
  sc'.length = sc.length ∧ ∀ b, at' sc' b = at' sc b / 2 ^ halv d (at' sc a) + if b = a then d / 2 ^ halv d (at' sc a) else 0

set_option maxRecDepth 100000 in
set_option maxHeartbeats 3200000 in
theorem heap_bump_any (w : World) (base B S P : Nat) (v : Value) (sc row pl : List Nat) (h : Heap w base B S P v sc row pl) (h0 : 0 ∉ row) (hs : ∀ b, at' sc b ≤ T62) (a d : Nat) (h1 : 1 ≤ a) (ha : a < sc.length) (hd : d < 18446744073709551616) :
    Calls Try.prog 9 #[.pointer (some ⟨B, 0, none⟩), .int .i64 (a : Int), .int .u64 (d : Int)] w fun e w' => e = .returned (.tuple #[]) ∧
      ∃ sc' row' pl', Heap w' base B S P v sc' row' pl' ∧ Bumped sc a d sc' ∧ row'.Perm row ∧ Touch w w' (Foot S P v) := by
  have i1 : (0 : Int) ≤ (a : Int) := by omega
  have i2 : (a : Int) < (sc.length : Int) := by omega
  have few := h.1.few
  have HS := Lib.hid hs
  have H := Lib.hid h
  have H0 := Lib.hid h0
  clear h hs h0
  go_enter Try.func9, Try.ntmps9
  go_wp2_with fail
  refine (is_yes _ base B S P v sc row pl H.out.1 _ (by omega) i2).mono ?_
  rintro e w1 ⟨rfl, rfl⟩
  go_wp2
  go_loopw [2] (fun t wr => BumpW w base B S P v sc row a d t wr) (fun t _ => (intOf t).toNat)
  case atStart => exact ⟨0, sc, row, pl, by simp, H.out, rfl, fun b => by simp, List.Perm.refl _, Touch.refl _ _, by simp⟩
  case round =>
    obtain ⟨j, sc', row', pl', rfl, hh, hl, hat, hpe, ht, hj⟩ := hrel
    have hT : T62 = 4611686018427387904 := rfl
    obtain ⟨dj, hdj⟩ : ∃ x, d / 2 ^ j = x := ⟨_, rfl⟩
    obtain ⟨sj, hsj⟩ : ∃ x, at' sc a / 2 ^ j = x := ⟨_, rfl⟩
    have hdb : dj ≤ d := by rw [← hdj]; exact Nat.div_le_self _ _
    have hsb : sj ≤ 4611686018427387904 := by rw [← hsj]; exact Nat.le_trans (Nat.div_le_self _ _) (HS.out a)
    rw [hdj, hsj] at hj
    rw [hdj]
    have b0 := cells_get hh.1.head 0 (v := .slice (some ⟨S, 0, none⟩) sc.length sc.length) (by rw [hl]; rfl)
    have ca := hh.1.score_cell (at_get (show a < sc'.length by rw [hl]; exact ha))
    rw [hat, hsj] at ca
    have fa := cells_free hh.1.score a
    have H1 := Lib.hid hh
    have HL := Lib.hid hl
    have HAT := Lib.hid hat
    have HPE := Lib.hid hpe
    have HT := Lib.hid ht
    have HJ := Lib.hid hj
    have HDJ := Lib.hid hdj
    have HSJ := Lib.hid hsj
    have h0' : 0 ∉ row' := fun hm => H0.out (hpe.mem_iff.1 hm)
    have hs' : ∀ b, at' sc' b < 18446744073709551616 := fun b => by rw [hat]; have := HS.out b; have := Nat.div_le_self (at' sc b) (2 ^ j); omega
    have HS' := Lib.hid hs'
    clear hh hl hat hpe ht hj hdj hsj hs'
    by_cases hc : T62 < dj ∨ T62 - dj < sj
    · have hpos : 0 < dj := by rcases hc with h | h <;> omega
      have HC := Lib.hid hc
      rcases hc with hc | hc
      · have g1 : (4611686018427387904 : Int) < (dj : Int) := by omega
        clear hT
        go_wp2_with fail
        refine (heap_halve _ base B S P v sc' row' pl' H1.out h0' HS'.out).mono ?_
        rintro e w2 ⟨rfl, sc2, row2, pl2, h2, l2, a2, p2, t2⟩
        have H2 := Lib.hid h2
        have L2 := Lib.hid l2
        have A2 := Lib.hid a2
        have P2 := Lib.hid p2
        have T2 := Lib.hid t2
        clear h2 l2 a2 p2 t2
        go_wp2
        go_roundw
        case rel =>
          refine ⟨j + 1, sc2, row2, pl2, by rw [← pow_step, HDJ.out]; first | rfl | simp, H2.out, L2.out.trans HL.out, fun b => by rw [A2.out, HAT.out, pow_step], P2.out.trans HPE.out, HT.out.trans T2.out (fun _ _ h => h), ?_⟩
          rw [← pow_step, ← pow_step, HDJ.out, HSJ.out, ← HJ.out, halv_yes HC.out]; omega
        case measure => simp [intOf]; omega
      · by_cases hc2 : T62 < dj
        · have g1 : (4611686018427387904 : Int) < (dj : Int) := by omega
          clear hT
          go_wp2_with fail
          refine (heap_halve _ base B S P v sc' row' pl' H1.out h0' HS'.out).mono ?_
          rintro e w2 ⟨rfl, sc2, row2, pl2, h2, l2, a2, p2, t2⟩
          have H2 := Lib.hid h2
          have L2 := Lib.hid l2
          have A2 := Lib.hid a2
          have P2 := Lib.hid p2
          have T2 := Lib.hid t2
          clear h2 l2 a2 p2 t2
          go_wp2
          go_roundw
          case rel =>
            refine ⟨j + 1, sc2, row2, pl2, by rw [← pow_step, HDJ.out]; first | rfl | simp, H2.out, L2.out.trans HL.out, fun b => by rw [A2.out, HAT.out, pow_step], P2.out.trans HPE.out, HT.out.trans T2.out (fun _ _ h => h), ?_⟩
            rw [← pow_step, ← pow_step, HDJ.out, HSJ.out, ← HJ.out, halv_yes HC.out]; omega
          case measure => simp [intOf]; omega
        · have g1 : (dj : Int) ≤ 4611686018427387904 := by omega
          have g2 : 4611686018427387904 - (dj : Int) < (sj : Int) := by omega
          clear hT
          go_wp2_with fail
          refine (heap_halve _ base B S P v sc' row' pl' H1.out h0' HS'.out).mono ?_
          rintro e w2 ⟨rfl, sc2, row2, pl2, h2, l2, a2, p2, t2⟩
          have H2 := Lib.hid h2
          have L2 := Lib.hid l2
          have A2 := Lib.hid a2
          have P2 := Lib.hid p2
          have T2 := Lib.hid t2
          clear h2 l2 a2 p2 t2
          go_wp2
          go_roundw
          case rel =>
            refine ⟨j + 1, sc2, row2, pl2, by rw [← pow_step, HDJ.out]; first | rfl | simp, H2.out, L2.out.trans HL.out, fun b => by rw [A2.out, HAT.out, pow_step], P2.out.trans HPE.out, HT.out.trans T2.out (fun _ _ h => h), ?_⟩
            rw [← pow_step, ← pow_step, HDJ.out, HSJ.out, ← HJ.out, halv_yes HC.out]; omega
          case measure => simp [intOf]; omega
    · have g1 : (dj : Int) ≤ 4611686018427387904 := by omega
      have g2 : (sj : Int) ≤ 4611686018427387904 - (dj : Int) := by omega
      have g3 : ¬ 4611686018427387904 < (dj : Int) := by omega
      have g4 : ¬ 4611686018427387904 - (dj : Int) < (sj : Int) := by omega
      have HN := Lib.hid (halv_no hc)
      have hal : a < sc'.length := by rw [HL.out]; exact ha
      have HSC := Lib.hid (H1.out.1.set_score (j := a) (u := sj + dj) (x := (sj : Int) + (dj : Int)) (by simp))
      have hbi := bump_inv H1.out.2 (d := dj) hal
      rw [HAT.out, HSJ.out] at hbi
      have HBI := Lib.hid hbi
      have la : a < pl'.length := by rw [H1.out.2.pla.1]; exact hal
      have hz : at' pl' a ≤ row'.length := by
        rcases Classical.em (a ∈ row') with hm | hm
        · obtain ⟨p, hp, e⟩ := mem_at hm
          have := H1.out.2.pla.2.1 p hp
          rw [e] at this; omega
        · have := H1.out.2.pla.2.2 a hal hm; omega
      have hr := H1.out.row_le h0'
      obtain ⟨z, hze⟩ : ∃ z, at' pl' a = z := ⟨_, rfl⟩
      have hpz := at_get la
      rw [hze] at hz hpz
      have HPZ := Lib.hid hpz
      have HZE := Lib.hid hze
      clear hbi hT hc hpz hze la
      have hres : Bumped sc a d (sc'.set a (sj + dj)) := by
        have e := HJ.out
        rw [HN.out, Nat.add_zero] at e
        refine ⟨by simpa using HL.out, fun b => ?_⟩
        rw [← e, at_set hal, HAT.out]
        by_cases eb : b = a
        · subst eb; rw [if_pos rfl, if_pos rfl, HSJ.out, HDJ.out]
        · rw [if_neg eb, if_neg eb]; rfl
      have HRES := Lib.hid hres
      clear hres
      by_cases hz0 : 0 < z
      · go_wp2_with fail
        refine (has_yes _ base B S P v _ row' pl' HSC.out a z HPZ.out h1 true (by simpa using hz0)).mono ?_
        rintro e w2 ⟨rfl, rfl⟩
        have b2 := cells_get HSC.out.head 2 (v := .slice (some ⟨P, 0, none⟩) pl'.length pl'.length) rfl
        have pa := HSC.out.place_cell HPZ.out
        have i5 : (a : Int) < (pl'.length : Int) := by have := lt_get HPZ.out; omega
        go_wp2_with fail
        refine (up_is _ base B S P v _ row' pl' HSC.out ⟨fun x hx => by simpa using H1.out.2.valid.1 x hx, H1.out.2.valid.2⟩ z hz0 hz hr).mono ?_
        rintro e w3 ⟨rfl, h3, t3⟩
        have H3 := Lib.hid h3
        have T3 := Lib.hid t3
        clear h3 t3
        go_wp2
        go_end0
        have hb := HBI.out
        rw [HZE.out] at hb
        unfold bumped at hb
        rw [if_pos hz0] at hb
        exact ⟨rfl, _, _, _, ⟨H3.out, hb.1⟩, HRES.out, hb.2.trans HPE.out, (HT.out.set S a _ (.inl rfl)).trans T3.out (fun _ _ h => .inr h)⟩
      · go_wp2_with fail
        refine (has_yes _ base B S P v _ row' pl' HSC.out a z HPZ.out h1 false (by simpa using hz0)).mono ?_
        rintro e w2 ⟨rfl, rfl⟩
        go_wp2
        go_end0
        have hb := HBI.out
        rw [HZE.out] at hb
        unfold bumped at hb
        rw [if_neg hz0] at hb
        exact ⟨rfl, _, _, _, ⟨HSC.out, hb.1⟩, HRES.out, hb.2.trans HPE.out, HT.out.set S a _ (.inl rfl)⟩

set_option maxHeartbeats 400000 in
theorem bump_out (w : World) (base B S P : Nat) (v : Value) (sc row pl : List Nat) (h : Hp w base B S P v sc row pl) (x y : Int) (hx : x < 1 ∨ (sc.length : Int) ≤ x) :
    Calls Try.prog 9 #[.pointer (some ⟨B, 0, none⟩), .int .i64 x, .int .u64 y] w fun e w' => e = .returned (.tuple #[]) ∧ w = w' := by
  have H := Lib.hid h
  have HX := Lib.hid hx
  clear h hx
  go_enter Try.func9, Try.ntmps9
  go_wp2_with (go_at_call 17; refine (is_no _ base B S P v sc row pl H.out _ HX.out).mono ?_; rintro e w1 ⟨rfl, rfl⟩)
  refine bodyPost_ret (results_none rfl _ _ _) rfl ?_
  exact ⟨rfl, rfl⟩

set_option maxHeartbeats 400000 in
theorem push_out (w : World) (base B S P : Nat) (v : Value) (sc row pl : List Nat) (h : Hp w base B S P v sc row pl) (x : Int) (hx : x < 1 ∨ (sc.length : Int) ≤ x) :
    Calls Try.prog 11 #[.pointer (some ⟨B, 0, none⟩), .int .i64 x] w fun e w' => e = .returned (.bool false) ∧ w = w' := by
  have H := Lib.hid h
  have HX := Lib.hid hx
  clear h hx
  go_enter Try.func11, Try.ntmps11
  go_wp2_with (go_at_call 17; refine (is_no _ base B S P v sc row pl H.out _ HX.out).mono ?_; rintro e w1 ⟨rfl, rfl⟩)
  go_ret
  exact ⟨rfl, rfl⟩

set_option maxHeartbeats 400000 in
theorem score_out (w : World) (base B S P : Nat) (v : Value) (sc row pl : List Nat) (h : Hp w base B S P v sc row pl) (x : Int) (hx : x < 1 ∨ (sc.length : Int) ≤ x) :
    Calls Try.prog 15 #[.pointer (some ⟨B, 0, none⟩), .int .i64 x] w fun e w' => e = .returned (.int .u64 0) ∧ w = w' := by
  have H := Lib.hid h
  have HX := Lib.hid hx
  clear h hx
  go_enter Try.func15, Try.ntmps15
  go_wp2_with (go_at_call 17; refine (is_no _ base B S P v sc row pl H.out _ HX.out).mono ?_; rintro e w1 ⟨rfl, rfl⟩)
  go_ret
  exact ⟨rfl, rfl⟩

set_option maxHeartbeats 400000 in
theorem score_in (w : World) (base B S P : Nat) (v : Value) (sc row pl : List Nat) (h : Hp w base B S P v sc row pl) (a : Nat) (x : Int) (hx : x = a) (h1 : 1 ≤ a) (ha : a < sc.length) (s : Nat) (hs : at' sc a = s) :
    Calls Try.prog 15 #[.pointer (some ⟨B, 0, none⟩), .int .i64 x] w fun e w' => e = .returned (.int .u64 (s : Int)) ∧ w = w' := by
  subst hx
  have b0 := cells_get h.head 0 (v := .slice (some ⟨S, 0, none⟩) sc.length sc.length) rfl
  have ca := h.score_cell (at_get ha)
  rw [hs] at ca
  have i1 : (0 : Int) ≤ (a : Int) := by omega
  have i2 : (a : Int) < (sc.length : Int) := by omega
  have few := h.few
  have H := Lib.hid h
  clear h hs
  go_enter Try.func15, Try.ntmps15
  go_wp2_with (go_at_call 17; refine (is_yes _ base B S P v sc row pl H.out _ (by omega) i2).mono ?_; rintro e w1 ⟨rfl, rfl⟩)
  go_ret
  exact ⟨rfl, rfl⟩

end Go.Proofs.Ytnapkgnbkkilgaa.Hp
