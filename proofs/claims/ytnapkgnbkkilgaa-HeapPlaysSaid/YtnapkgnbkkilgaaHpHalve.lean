/- Halve, and Bump where scores are halved. -/
import Derived.Test.YtnapkgnbkkilgaaHpPush
namespace Go.Proofs.Ytnapkgnbkkilgaa.Hp
open Go.RowKit

/-! The order from a place on. -/
def OrdL (sc row : List Nat) (lo : Nat) : Prop := ∀ c, 2 ≤ c → c ≤ row.length → lo ≤ c / 2 → ¬ Lt sc (el row c) (el row (c / 2))

def DownInvL (sc row : List Nat) (lo k : Nat) : Prop :=
  (∀ c, 2 ≤ c → c ≤ row.length → lo ≤ c / 2 → c / 2 ≠ k → ¬ Lt sc (el row c) (el row (c / 2))) ∧ (∀ c, 2 ≤ c → c ≤ row.length → c / 2 = k → lo ≤ k / 2 → 2 ≤ k → ¬ Lt sc (el row c) (el row (k / 2)))

theorem downF_ordL (sc : List Nat) (lo : Nat) : ∀ (n k : Nat) (row pl : List Nat), row.length + 1 - k ≤ n → 1 ≤ k → DownInvL sc row lo k → OrdL sc (downF sc row pl k).1 lo := by
  intro n
  induction n with
  | zero =>
    intro k row pl hn h1 ⟨hA, _⟩
    have e : next2 sc row k = k := by
      have := next2_le sc row k
      rcases next2_is sc row k with ⟨e, _⟩ | ⟨e, _⟩ <;> omega
    rw [downF, dif_pos e]
    intro c c1 c2 c3
    have c4 : c ≤ row.length := c2
    exact hA c c1 c4 c3 (by omega)
  | succ n ih =>
    intro k row pl hn h1 ⟨hA, hB⟩
    rw [downF]
    rcases next2_is sc row k with ⟨e, hk⟩ | ⟨e, hml, hlt, hk⟩
    · rw [dif_pos e]
      intro c c1 c2 c3
      by_cases e1 : c / 2 = k
      · rw [e1]; exact hk c e1 c2
      · exact hA c c1 c2 c3 e1
    · generalize next2 sc row k = m at *
      rw [dif_neg (by omega)]
      have E : ∀ c, 1 ≤ c → el (swR row (k - 1) (m - 1)) c = if c = m then el row k else if c = k then el row m else el row c :=
        fun c hc => el_swap h1 (by omega) hc (by omega) hml
      refine ih m _ _ (by rw [swR_length]; omega) (by omega) ⟨?_, ?_⟩
      · intro c c1 c2 cl c3
        rw [swR_length] at c2
        rw [E c (by omega), E (c / 2) (by omega), if_neg c3]
        by_cases e1 : c = m
        · subst e1
          rw [if_pos rfl, if_pos e]
          exact hlt.asymm
        · rw [if_neg e1]
          by_cases e2 : c = k
          · subst e2
            rw [if_pos rfl, if_neg (by omega : ¬ c / 2 = c)]
            exact hB m (by omega) hml e cl c1
          · rw [if_neg e2]
            by_cases e3 : c / 2 = k
            · rw [if_pos e3]; exact hk c e3 c2
            · rw [if_neg e3]; exact hA c c1 c2 cl e3
      · intro c c1 c2 c3 cl c4
        rw [swR_length] at c2
        rw [E c (by omega), E (m / 2) (by omega), if_neg (by omega), if_neg (by omega : ¬ c = k), if_neg (by omega : ¬ m / 2 = m), if_pos e]
        have := hA c c1 c2 (by omega) (by omega)
        rw [c3] at this
        exact this

theorem ordL_step {sc row pl : List Nat} {k : Nat} (h1 : 1 ≤ k) (h : OrdL sc row (k + 1)) : OrdL sc (downF sc row pl k).1 k :=
  downF_ordL sc k _ k row pl (Nat.le_refl _) h1 ⟨fun c c1 c2 c3 c4 => h c c1 c2 (by omega), fun _ _ _ _ hl h2 => absurd hl (by omega)⟩

theorem same_trans {sc row row' row'' pl' pl'' : List Nat} (h : Same sc row row' pl') (k : Same sc row' row'' pl'') : Same sc row row'' pl'' := ⟨k.1.trans h.1, k.2.1, k.2.2⟩

def Half1 (w : World) (base B S P : Nat) (v : Value) (sc row pl : List Nat) (t : Value) (wr : World) : Prop :=
  ∃ (k : Nat) (sc' : List Nat), t = .int .i64 (k : Int) ∧ k ≤ sc.length ∧ Hp wr base B S P v sc' row pl ∧ sc'.length = sc.length ∧ (∀ a, at' sc' a = if a < k then at' sc a / 2 else at' sc a) ∧ Touch w wr (Foot S P v)

def Half2 (w : World) (base B S P : Nat) (v : Value) (sc' row : List Nat) (t : Value) (wr : World) : Prop :=
  ∃ (k : Nat) (row' pl' : List Nat), t = .int .i64 (k : Int) ∧ k ≤ row.length ∧ Hp wr base B S P v sc' row' pl' ∧ Same sc' row row' pl' ∧ OrdL sc' row' (k + 1) ∧ Touch w wr (Foot S P v)

set_option maxRecDepth 100000 in
set_option maxHeartbeats 3200000 in
theorem heap_halve (w : World) (base B S P : Nat) (v : Value) (sc row pl : List Nat) (h : Heap w base B S P v sc row pl) (h0 : 0 ∉ row) (hs : ∀ a, at' sc a < 18446744073709551616) :
    Calls Try.prog 10 #[.pointer (some ⟨B, 0, none⟩)] w fun e w' => e = .returned (.tuple #[]) ∧
      ∃ sc' row' pl', Heap w' base B S P v sc' row' pl' ∧ sc'.length = sc.length ∧ (∀ a, at' sc' a = at' sc a / 2) ∧ row'.Perm row ∧ Touch w w' (Foot S P v) := by
  have hr := h.row_le h0
  have hfew := h.1.few
  have b0 := cells_get h.1.head 0 (v := .slice (some ⟨S, 0, none⟩) sc.length sc.length) rfl
  have HV := Lib.hid h.2.valid
  have HP := Lib.hid h.2.pla
  have HS := Lib.hid hs
  have H := Lib.hid h.1
  clear h hs
  go_enter Try.func10, Try.ntmps10
  go_wp2
  go_loopw [11] (fun t wr => Half1 w base B S P v sc row pl t wr) (fun t _ => sc.length - (intOf t).toNat)
  case atStart => exact ⟨0, sc, rfl, by omega, H.out, rfl, fun a => by rw [if_neg (by omega)], Touch.refl _ _⟩
  case round =>
    obtain ⟨k, sc', rfl, hk, hh, hl, hat, ht⟩ := hrel
    have H1 := Lib.hid hh
    have HL := Lib.hid hl
    have HAT := Lib.hid hat
    have HT := Lib.hid ht
    by_cases hlt : k < sc.length
    · have c0 := cells_get hh.head 0 (v := .slice (some ⟨S, 0, none⟩) sc.length sc.length) (by rw [hl]; rfl)
      have ck := hh.score_cell (at_get (show k < sc'.length by rw [hl]; exact hlt))
      have fk := cells_free hh.score k
      obtain ⟨s, hse⟩ : ∃ s, at' sc' k = s := ⟨_, rfl⟩
      rw [hse] at ck
      have hs1 : s = at' sc k := by rw [← hse, hat, if_neg (by omega)]
      have hs2 : s < 18446744073709551616 := by rw [hs1]; exact HS.out k
      have HS1 := Lib.hid hs1
      have i1 : (0 : Int) ≤ (k : Int) := by omega
      have i2 : (k : Int) < (sc.length : Int) := by omega
      clear hh hl hat ht hse hs1
      go_wp2
      go_roundw
      case rel =>
        refine ⟨k + 1, sc'.set k (s / 2), by first | rfl | go_num, by omega, H1.out.set_score (by simp), by simpa using HL.out, fun a => ?_, HT.out.set S k _ (.inl rfl)⟩
        rw [at_set (by rw [HL.out]; exact hlt), HAT.out, HS1.out]
        by_cases e : a = k
        · subst e; rw [if_pos rfl, if_pos (by omega)]
        · rw [if_neg e]
          by_cases e2 : a < k
          · rw [if_pos e2, if_pos (by omega)]
          · rw [if_neg e2, if_neg (by omega)]
      case measure => simp [intOf]; omega
    · obtain rfl : k = sc.length := by omega
      obtain ⟨A, cp, hv⟩ := hh.slice
      have c1 := cells_get hh.head 1 (v := v) rfl
      rw [hv] at c1
      have hall : ∀ a, at' sc' a = at' sc a / 2 := fun a => by
        rw [hat]
        by_cases e : a < sc.length
        · rw [if_pos e]
        · rw [if_neg e]
          have : at' sc a = 0 := by unfold at'; simp [List.getD_eq_getElem?_getD, List.getElem?_eq_none (by omega : sc.length ≤ a)]
          rw [this]
      have HALL := Lib.hid hall
      have hv' : Valid sc' row := ⟨fun x hx => by rw [HL.out]; exact HV.out.1 x hx, HV.out.2⟩
      have hp' : Pla sc' row pl := ⟨by rw [HL.out]; exact HP.out.1, HP.out.2.1, fun a ha => HP.out.2.2 a (by rw [← HL.out]; exact ha)⟩
      have HSM := Lib.hid (show Same sc' row row pl from ⟨List.Perm.refl _, hv', hp'⟩)
      clear hh hl hat ht hall hv' hp' hv b0 hk
      go_wp2
      go_loopw [3] (fun t wr => Half2 w base B S P v sc' row t wr) (fun t _ => (intOf t).toNat)
      case atStart => exact ⟨row.length / 2, row, pl, by simp, by omega, H1.out, HSM.out, fun c c1 c2 c3 => absurd c3 (by omega), HT.out⟩
      case round =>
        obtain ⟨j, row', pl', rfl, hj, hh, hsm, ho, ht⟩ := hrel
        clear hlt
        by_cases hj0 : 0 < j
        · have H2 := Lib.hid hh
          have HSM2 := Lib.hid hsm
          have HO := Lib.hid ho
          have HT2 := Lib.hid ht
          have hrl : row'.length = row.length := hsm.1.length_eq
          have hrl2 : row'.length ≤ 65536 := by omega
          clear hh hsm ho ht hrl
          go_wp2_with fail
          refine (down_is _ base B S P v sc' row' pl' H2.out HSM2.out.2.1 j (by omega) (by omega) hrl2).mono ?_
          rintro e w3 ⟨rfl, h3, t3⟩
          have H3 := Lib.hid h3
          have T3 := Lib.hid t3
          clear h3 t3
          go_wp2
          go_roundw
          case rel =>
            refine ⟨j - 1, _, _, by congr 1; omega, by omega, H3.out, same_trans HSM2.out (down_same HSM2.out.2.1 HSM2.out.2.2 (by omega)), ?_, HT2.out.trans T3.out (fun _ _ h => .inr h)⟩
            rw [Nat.sub_add_cancel (by omega)]
            exact ordL_step (by omega) HO.out
          case measure => simp [intOf]; omega
        · obtain rfl : j = 0 := by omega
          go_wp2
          go_end0
          refine ⟨rfl, sc', row', pl', ⟨hh, hsm.2.1, hsm.2.2, fun c c1 c2 => ho c c1 c2 (by omega)⟩, HL.out, HALL.out, hsm.1, ht⟩

end Go.Proofs.Ytnapkgnbkkilgaa.Hp
