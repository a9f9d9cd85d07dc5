/- The walk of up. -/
import Derived.Test.YtnapkgnbkkilgaaHpMath
namespace Go.Proofs.Ytnapkgnbkkilgaa.Hp
open Go.RowKit

theorem ahead_at (w : World) (base B S P : Nat) (v : Value) (sc row pl : List Nat) (h : Hp w base B S P v sc row pl) (hv : Valid sc row) (p q : Nat) (hp : p < row.length) (hq : q < row.length)
    (hr : row.length ≤ 65536) (x y : Int) (hx : x = p + 1) (hy : y = q + 1) (r : Bool) (hrr : aheadR sc row p q = r) :
    Calls Try.prog 21 #[.pointer (some ⟨B, 0, none⟩), .int .i64 x, .int .i64 y] w fun e w' => e = .returned (.bool r) ∧ ∃ n, w' = w.drewN n :=
  ahead_is w base B S P v sc row pl h p q _ _ _ _ (at_get hp) (at_get hq) (at_get (hv.at_lt hp)) (at_get (hv.at_lt hq)) hr x y hx hy r hrr

theorem swap_at (w : World) (base B S P : Nat) (v : Value) (sc row pl : List Nat) (h : Hp w base B S P v sc row pl) (hv : Valid sc row) (p q : Nat) (hp : p < row.length) (hq : q < row.length)
    (hr : row.length ≤ 65536) (x y : Int) (hx : x = p + 1) (hy : y = q + 1) :
    Calls Try.prog 20 #[.pointer (some ⟨B, 0, none⟩), .int .i64 x, .int .i64 y] w fun e w' => e = .returned (.tuple #[]) ∧
      Hp w' base B S P v sc (swR row p q) (swP row pl p q) ∧ Touch w w' (fun i => i = P ∨ v.ownBlock = some i) :=
  swap_is w base B S P v sc row pl h p q _ _ (at_get hp) (at_get hq) (hv.at_lt hp) (hv.at_lt hq) (fun hne => hv.at_ne hp hq hne) hr x y hx hy

/-- The heap by now, on the way of up and down. -/
def Way (w : World) (base B S P : Nat) (v : Value) (sc row pl : List Nat) (f : List Nat → List Nat → Nat → List Nat × List Nat) (k : Nat) (t : Value) (wr : World) : Prop :=
  ∃ (j : Nat) (row' pl' : List Nat), t = .int .i64 (j : Int) ∧ 1 ≤ j ∧ j ≤ max k row.length ∧ row'.length = row.length ∧ Hp wr base B S P v sc row' pl' ∧ Valid sc row' ∧ Touch w wr (fun i => i = P ∨ v.ownBlock = some i) ∧ f row' pl' j = f row pl k

set_option maxRecDepth 100000 in
set_option maxHeartbeats 1600000 in
theorem up_is (w : World) (base B S P : Nat) (v : Value) (sc row pl : List Nat) (h : Hp w base B S P v sc row pl) (hv : Valid sc row) (k : Nat) (h1 : 1 ≤ k) (hk : k ≤ row.length) (hr : row.length ≤ 65536) :
    Calls Try.prog 18 #[.pointer (some ⟨B, 0, none⟩), .int .i64 (k : Int)] w fun e w' => e = .returned (.tuple #[]) ∧
      Hp w' base B S P v sc (upF sc row pl k).1 (upF sc row pl k).2 ∧ Touch w w' (fun i => i = P ∨ v.ownBlock = some i) := by
  have H := Lib.hid h
  clear h
  go_enter Try.func18, Try.ntmps18
  go_wp2
  go_loopw [1] (fun t wr => Way w base B S P v sc row pl (fun r p j => upF sc r p j) k t wr) (fun t _ => (intOf t).toNat)
  case atStart => exact ⟨k, row, pl, rfl, h1, by omega, rfl, H.out, hv, Touch.refl _ _, rfl⟩
  case round =>
    obtain ⟨j, row', pl', rfl, j1, j2, hl, hh, hv', ht, hf⟩ := hrel
    have HH := Lib.hid hh
    have HT := Lib.hid ht
    have HF := Lib.hid (show upF sc row' pl' j = upF sc row pl k from hf)
    have HL := Lib.hid hl
    have lj : j ≤ row'.length := by rw [hl]; omega
    have lr : row'.length ≤ 65536 := by omega
    clear hh ht hf hl
    by_cases c1 : 1 < j
    · by_cases c2 : aheadR sc row' (j - 1) (j / 2 - 1) = true
      · have HC := Lib.hid c2
        clear c2
        go_wp2_with fail
        refine (ahead_at _ base B S P v sc row' pl' HH.out hv' (j - 1) (j / 2 - 1) (by omega) (by omega) lr _ _ (by omega) (by omega) _ HC.out).mono ?_
        rintro e w1 ⟨rfl, n, rfl⟩
        go_wp2_with fail
        refine (swap_at _ base B S P v sc row' pl' (HH.out.drewN n) hv' (j - 1) (j / 2 - 1) (by omega) (by omega) lr _ _ (by omega) (by omega)).mono ?_
        rintro e w2 ⟨rfl, h2, t2⟩
        have HH2 := Lib.hid h2
        have HT2 := Lib.hid t2
        clear h2 t2
        go_wp2
        go_roundw
        case rel =>
          refine ⟨j / 2, _, _, by simp, by omega, by omega, by rw [swR_length]; exact HL.out, HH2.out, hv'.swap (by omega) (by omega), (HT.out.drewN n).trans HT2.out (fun _ _ h => h), ?_⟩
          show upF sc (swR row' (j - 1) (j / 2 - 1)) (swP row' pl' (j - 1) (j / 2 - 1)) (j / 2) = upF sc row pl k
          rw [← HF.out]
          conv => rhs; unfold upF
          rw [dif_pos ⟨c1, HC.out⟩]
        case measure => simp [intOf]; omega
      · have c3 : aheadR sc row' (j - 1) (j / 2 - 1) = false := by simpa using c2
        have HC := Lib.hid c3
        clear c2 c3
        go_wp2_with fail
        refine (ahead_at _ base B S P v sc row' pl' HH.out hv' (j - 1) (j / 2 - 1) (by omega) (by omega) lr _ _ (by omega) (by omega) _ HC.out).mono ?_
        rintro e w1 ⟨rfl, n, rfl⟩
        go_wp2
        go_end0
        have hu : upF sc row' pl' j = (row', pl') := by unfold upF; rw [dif_neg (by rw [HC.out]; simp)]
        rw [← HF.out, hu]
        exact ⟨rfl, HH.out.drewN n, HT.out.drewN n⟩
    · go_wp2
      go_end0
      have hu : upF sc row' pl' j = (row', pl') := by unfold upF; rw [dif_neg (by omega)]
      rw [← HF.out, hu]
      exact ⟨rfl, HH.out, HT.out⟩

end Go.Proofs.Ytnapkgnbkkilgaa.Hp
