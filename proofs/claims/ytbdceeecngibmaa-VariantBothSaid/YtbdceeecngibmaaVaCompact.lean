/- slices.Compact over settings. -/
import Derived.Test.YtbdceeecngibmaaVaClear
namespace Go.Proofs.Ytbdceeecngibmaa.Va
open Go.RowKit

/-- Settings in a row of cells that may be written. -/
def RowT (w : World) (blk off : Nat) (l : List Set1) : Prop := ∀ j, j < l.length →
  (w.cell? ⟨blk, off + j * 2, none⟩ = some (.string (nthT l j).1) ∧ w.frozen? ⟨blk, off + j * 2, none⟩ = false) ∧ w.cell? ⟨blk, off + j * 2 + 1, none⟩ = some (.string (nthT l j).2) ∧ w.frozen? ⟨blk, off + j * 2 + 1, none⟩ = false
def StT (w wr : World) (blk off : Nat) (D : List Set1) : Prop := RowT wr blk off D ∧ Touch w wr (fun i => i = blk)
theorem StT.drewN {w wr : World} {blk off : Nat} {D : List Set1} (h : StT w wr blk off D) (n : Nat) : StT w (wr.drewN n) blk off D := ⟨h.1, h.2.drewN n⟩

theorem nthT_set {D : List Set1} {i j : Nat} {x : Set1} (h : i ≠ j) : nthT (D.set i x) j = nthT D j := by
  unfold nthT; rw [List.getElem?_set_ne h]
theorem nthT_set_same {D : List Set1} {i : Nat} {x : Set1} (h : i < D.length) : nthT (D.set i x) i = x := by
  unfold nthT; rw [List.getElem?_set_self h]; rfl
theorem touch_cells {w : World} {blk : Nat} : ∀ (vs : List Value) (o : Nat) (wr : World), Touch w wr (fun i => i = blk) → Touch w (wr.setCells blk o vs) (fun i => i = blk)
  | [], _, _, h => h
  | v :: vs, o, _, h => touch_cells vs (o + 1) _ (h.set blk o v rfl)
theorem StT.put {w wr : World} {blk off kk : Nat} {D : List Set1} {x : Set1} (h : StT w wr blk off D) (hk : kk < D.length) :
    StT w ((wr.setCell ⟨blk, off + kk * 2, none⟩ (.string x.1)).setCell ⟨blk, off + kk * 2 + 1, none⟩ (.string x.2)) blk off (D.set kk x) := by
  show StT w (wr.setCells blk (off + kk * 2) [.string x.1, .string x.2]) blk off (D.set kk x)
  refine ⟨fun j hj => ?_, touch_cells _ _ _ h.2⟩
  rw [List.length_set] at hj
  obtain ⟨⟨a1, a2⟩, a3, a4⟩ := h.1 j hj
  obtain ⟨⟨b1, b2⟩, b3, b4⟩ := h.1 kk hk
  simp only [World.frozen?_setCells, a2, a4, and_true]
  by_cases e : kk = j
  · subst e
    rw [nthT_set_same hk]
    have hin := World.cell?_setCells_in blk [.string x.1, .string x.2] (off + kk * 2) wr (fun j hj => by
      match j, hj with
      | 0, _ => rw [Nat.add_zero, b1]; rfl
      | 1, _ => rw [b3]; rfl)
    exact ⟨hin 0 (by simp), hin 1 (by simp)⟩
  · rw [nthT_set e, World.cell?_setCells_out _ _ _ _ _ (fun _ _ => by simp; omega), World.cell?_setCells_out _ _ _ _ _ (fun _ _ => by simp; omega)]
    exact ⟨a1, a3⟩
theorem StT.cut {w wr : World} {blk off kk : Nat} {D : List Set1} (h : StT w wr blk off D) (vs : List Value) : StT w (wr.setCells blk (off + kk * 2) vs) blk off (D.take kk) := by
  refine ⟨fun j hj => ?_, touch_cells _ _ _ h.2⟩
  rw [List.length_take] at hj
  obtain ⟨⟨a1, a2⟩, a3, a4⟩ := h.1 j (by omega)
  simp only [World.frozen?_setCells, a2, a4, and_true]
  have e : nthT (D.take kk) j = nthT D j := by unfold nthT; rw [List.getElem?_take_of_lt (by omega)]
  rw [e, World.cell?_setCells_out _ _ _ _ _ (fun _ _ => by simp; omega), World.cell?_setCells_out _ _ _ _ _ (fun _ _ => by simp; omega)]
  exact ⟨a1, a3⟩
theorem ret_sl {A : Option Addr} {c n m : Nat} (h : n = m) : Ending.returned (.slice A n c) = .returned (.slice A m c) := by rw [h]
theorem dd_one {l : List Set1} (h : l.length < 2) : dd l = l := by
  match l, h with
  | [], _ => rfl
  | [x], _ => exact dd_nil rfl
/-- The second loop: what stands below m has been looked at, kk places hold it. -/
structure CI (l : List Set1) (m kk : Nat) (D : List Set1) : Prop where
  len : D.length = l.length
  lo : D.take kk = dd (l.take m)
  lt : kk < m
  le : m ≤ l.length
  hi : ∀ j, m ≤ j + 1 → nthT D j = nthT l j
theorem CI.start {l : List Set1} {k : Nat} (h1 : 0 < k) (hk : k < l.length) (hd : dd (l.take k) = l.take k) (he : eqT (nthT l k) (nthT l (k - 1)) = true) : CI l (k + 1) k l := by
  obtain ⟨m, rfl⟩ : ∃ m, k = m + 1 := ⟨k - 1, by omega⟩
  refine ⟨rfl, ?_, by omega, by omega, fun _ _ => rfl⟩
  rw [dd_take (by omega), if_pos (by rw [Nat.add_sub_cancel] at he; exact eqT_iff.2 (eqT_iff.1 he).symm), hd]
theorem CI.skip {l D : List Set1} {m kk : Nat} (h : CI l m kk D) (hm : m < l.length) (he : eqT (nthT l m) (nthT l (m - 1)) = true) : CI l (m + 1) kk D := by
  have h1 := h.lt
  obtain ⟨m, rfl⟩ : ∃ n, m = n + 1 := ⟨m - 1, by omega⟩
  refine ⟨h.len, ?_, by omega, by omega, fun j hj => h.hi j (by omega)⟩
  rw [dd_take (by omega), if_pos (by rw [Nat.add_sub_cancel] at he; exact eqT_iff.2 (eqT_iff.1 he).symm), h.lo]
theorem CI.keep {l D : List Set1} {m kk : Nat} (h : CI l m kk D) (hm : m < l.length) (he : ¬ eqT (nthT l m) (nthT l (m - 1)) = true) : CI l (m + 1) (kk + 1) (D.set kk (nthT l m)) := by
  have h1 := h.lt
  have h2 := h.len
  obtain ⟨m, rfl⟩ : ∃ n, m = n + 1 := ⟨m - 1, by omega⟩
  refine ⟨by simp [h2], ?_, by omega, by omega, fun j hj => by rw [nthT_set (by omega)]; exact h.hi j (by omega)⟩
  rw [dd_take (by omega), if_neg (by rw [Nat.add_sub_cancel] at he; exact fun h => he (eqT_iff.2 (eqT_iff.1 h).symm)), ← h.lo]
  rw [List.take_succ_eq_append_getElem (by simp; omega), List.take_set_of_le (Nat.le_refl _)]
  simp
theorem CI.done {l D : List Set1} {kk : Nat} (h : CI l l.length kk D) : kk = (dd l).length ∧ D.take kk = dd l := by
  have h1 := h.lo
  rw [List.take_length] at h1
  refine ⟨?_, h1⟩
  rw [← h1, List.length_take, h.len]
  have := h.lt; omega
theorem dd_step {l : List Set1} {k : Nat} (h1 : 0 < k) (hk : k < l.length) (hd : dd (l.take k) = l.take k) (he : ¬ eqT (nthT l k) (nthT l (k - 1)) = true) : dd (l.take (k + 1)) = l.take (k + 1) := by
  obtain ⟨m, rfl⟩ : ∃ m, k = m + 1 := ⟨k - 1, by omega⟩
  rw [dd_take (by omega), if_neg (by rw [Nat.add_sub_cancel] at he; exact fun h => he (eqT_iff.2 (eqT_iff.1 h).symm)), hd, List.take_succ_eq_append_getElem (by omega) (i := m + 1), nthT_lt hk]

set_option maxRecDepth 100000 in
set_option maxHeartbeats 1000000 in
theorem compact_short (w : World) (A : Option Addr) (L c : Nat) (l : List Set1) (hL : L = l.length) (h2 : L < 2) :
    Calls Try.prog 46 #[.slice A L c] w fun e w' => e = .returned (.slice A (dd l).length c) ∧ w = w' := by
  have e : (dd l).length = L := by rw [dd_one (by omega), hL]
  rw [e]
  clear e hL
  go_enter Try.func46, Try.ntmps46
  go_wp2
  go_ret
  exact ⟨rfl, rfl⟩

set_option maxRecDepth 100000 in
set_option maxHeartbeats 1000000 in
theorem compact_long (w : World) (blk off L c : Nat) (l : List Set1) (hL : L = l.length) (h2 : 2 ≤ L) (hc : L ≤ c) (hcm : c ≤ maxLen) (hrow : RowT w blk off l) :
    Calls Try.prog 46 #[.slice (some ⟨blk, off, none⟩) L c] w fun e w' => e = .returned (.slice (some ⟨blk, off, none⟩) (dd l).length c) ∧ RowT w' blk off (dd l) ∧ Touch w w' (fun i => i = blk) := by
  unfold maxLen at hcm
  have HL := Lib.hid hL
  have HR := Lib.hid hrow
  clear hL hrow
  go_enter Try.func46, Try.ntmps46
  go_wp2
  go_loopw [3] (fun s3 wr => ∃ k : Nat, 1 ≤ k ∧ k ≤ L ∧ s3 = .int .i64 k ∧ Hid (dd (l.take k) = l.take k) ∧ StT w wr blk off l) (fun s3 _ => L - (intOf s3).toNat)
  case atStart => exact ⟨1, by omega, by omega, rfl, Lib.hid (dd_one (by simp; omega)), HR.out, Touch.refl _ _⟩
  case round =>
    obtain ⟨k, hk1, hk, rfl, hd, hst⟩ := hrel
    have HST := Lib.hid hst
    by_cases hlt : k < L
    · obtain ⟨⟨c0, f0⟩, c1, f1⟩ := hst.1 k (by rw [← HL.out]; exact hlt)
      obtain ⟨⟨p0, g0⟩, p1, g1⟩ := hst.1 (k - 1) (by rw [← HL.out]; omega)
      obtain ⟨p, hp⟩ : ∃ p, p = k - 1 := ⟨_, rfl⟩
      have hs : IntKind.i64.wrap ((k : Int) - 1) = (p : Int) := by rw [IntWalk.i64_in _ (by omega)]; omega
      rw [← hp] at p0 p1
      have hpl : p < L := by omega
      have HP := Lib.hid hp
      have k0 : (0 : Int) ≤ (k : Int) := by omega
      have k1 : (k : Int) < (L : Int) := by omega
      have k2 : (0 : Int) ≤ (p : Int) := by omega
      have k3 : (p : Int) < (L : Int) := by omega
      clear f0 f1 g0 g1 hst hp
      by_cases he : eqT (nthT l k) (nthT l p) = true
      · have he' := he
        unfold eqT at he'
        rw [Bool.and_eq_true] at he'
        obtain ⟨e1, e2⟩ := he'
        unfold eqS at e1 e2
        have HE := Lib.hid he
        clear he
        go_wp2_with fail
        go_quiet (fail)
        go_wp2
        clear e1 e2 c0 c1 p0 p1
        go_loopw [3, 5] (fun s3 s5 wr => ∃ (kk k2 : Nat) (D : List Set1), s3 = .int .i64 kk ∧ s5 = .int .i64 k2 ∧ 1 ≤ k2 ∧ k + k2 ≤ L ∧ Hid (CI l (k + k2) kk D) ∧ StT w wr blk off D) (fun _ s5 _ => L - (intOf s5).toNat)
        case atStart => exact ⟨k, 1, l, rfl, rfl, by omega, by omega, Lib.hid (CI.start (by omega) (by rw [← HL.out]; exact hlt) hd.out (by rw [← HP.out]; exact HE.out)), HST.out.drewN _⟩
        case round =>
          clear HST
          obtain ⟨kk, k2, D, rfl, rfl, h1, hle, hci, hst⟩ := hrel
          have HST := Lib.hid hst
          have hkk := hci.out.lt
          have hDl := hci.out.len
          by_cases hlt2 : k + k2 < L
          · obtain ⟨⟨c0, f0⟩, c1, f1⟩ := hst.1 (k + k2) (by rw [hDl, ← HL.out]; exact hlt2)
            obtain ⟨⟨p0, g0⟩, p1, g1⟩ := hst.1 (k + k2 - 1) (by rw [hDl, ← HL.out]; omega)
            obtain ⟨⟨q0, i0⟩, q1, i1⟩ := hst.1 kk (by rw [hDl, ← HL.out]; omega)
            rw [hci.out.hi _ (by omega), show off + (k + k2) * 2 = off + k * 2 + k2 * 2 by omega] at c0 c1
            rw [hci.out.hi _ (by omega), show off + (k + k2 - 1) * 2 = off + k * 2 + (k2 - 1) * 2 by omega] at p0 p1
            obtain ⟨p2, hp2⟩ : ∃ p, p = k2 - 1 := ⟨_, rfl⟩
            have hs2 : IntKind.i64.wrap ((k2 : Int) - 1) = (p2 : Int) := by rw [IntWalk.i64_in _ (by omega)]; omega
            rw [← hp2] at p0 p1
            have HP2 := Lib.hid (show k + k2 - 1 = k + p2 by omega)
            rw [HP2.out] at p0 p1
            have k20 : (0 : Int) ≤ (k2 : Int) := by omega
            have k21 : (k2 : Int) < ((L - k : Nat) : Int) := by omega
            have k22 : (0 : Int) ≤ (p2 : Int) := by omega
            have k23 : (p2 : Int) < ((L - k : Nat) : Int) := by omega
            have HD := Lib.hid hDl
            clear f0 f1 g0 g1 hst hDl hp2
            by_cases he : eqT (nthT l (k + k2)) (nthT l (k + p2)) = true
            · have he' := he
              unfold eqT at he'
              rw [Bool.and_eq_true] at he'
              obtain ⟨e1, e2⟩ := he'
              unfold eqS at e1 e2
              have HE2 := Lib.hid he
              clear he
              go_wp2_with fail
              go_quiet (fail)
              go_wp2
              go_roundw
              case rel => exact ⟨kk, k2 + 1, D, rfl, by go_num, by omega, by omega, Lib.hid (hci.out.skip (by rw [← HL.out]; exact hlt2) (by rw [HP2.out]; exact HE2.out)), HST.out.drewN _⟩
              case measure => simp [intOf]; omega
            · have he' : eqS (nthT l (k + k2)).1 (nthT l (k + p2)).1 = false ∨ eqS (nthT l (k + k2)).1 (nthT l (k + p2)).1 = true ∧ eqS (nthT l (k + k2)).2 (nthT l (k + p2)).2 = false := by
                unfold eqT at he
                cases h1 : eqS (nthT l (k + k2)).1 (nthT l (k + p2)).1 with
                | false => exact .inl rfl
                | true => rw [h1] at he; exact .inr ⟨rfl, by simpa using he⟩
              have HE2 := Lib.hid he
              have kk0 : (0 : Int) ≤ (kk : Int) := by omega
              have kk1 : (kk : Int) < (L : Int) := by omega
              clear he
              rcases he' with e1 | ⟨e1, e2⟩
              all_goals
                (try unfold eqS at e1)
                (try unfold eqS at e2)
                go_wp2_with fail
                go_quiet (fail)
                go_wp2
                go_roundw
                case rel => refine ⟨kk + 1, k2 + 1, D.set kk (nthT l (k + k2)), by go_num, by go_num, by omega, by omega, Lib.hid (hci.out.keep (by rw [← HL.out]; exact hlt2) (by rw [HP2.out]; exact HE2.out)), (HST.out.drewN _).put (by rw [HD.out, ← HL.out]; omega)⟩
                case measure => simp [intOf]; omega
          · have hk2 : k + k2 = L := by omega
            have HK2 := Lib.hid hk2
            have kk0 : (0 : Int) ≤ (kk : Int) := by omega
            have kk1 : (kk : Int) < (L : Int) := by omega
            have hrow := hst.1
            have hcl := fun ty => clear_settings wr ty blk (off + kk * 2) (L - kk) (c - kk) (by omega) (fun j hj => by
              obtain ⟨⟨a1, _⟩, a3, _⟩ := hrow (kk + j / 2) (by rw [hDl, ← HL.out]; omega)
              rcases Nat.mod_two_eq_zero_or_one j with e | e
              · rw [show off + kk * 2 + j = off + (kk + j / 2) * 2 by omega, a1]; rfl
              · rw [show off + kk * 2 + j = off + (kk + j / 2) * 2 + 1 by omega, a3]; rfl) (fun j hj => by
              obtain ⟨⟨_, a2⟩, _, a4⟩ := hrow (kk + j / 2) (by rw [hDl, ← HL.out]; omega)
              rcases Nat.mod_two_eq_zero_or_one j with e | e
              · rw [show off + kk * 2 + j = off + (kk + j / 2) * 2 by omega, a2]
              · rw [show off + kk * 2 + j = off + (kk + j / 2) * 2 + 1 by omega, a4])
            have HD := Lib.hid hDl
            clear hst hk2 hrow hDl
            go_wp2
            go_ret
            have hci' := hci.out
            rw [HK2.out, HL.out] at hci'
            obtain ⟨d1, d2⟩ := hci'.done
            have hfin := HST.out.cut (kk := kk) (zeroT (L - kk))
            rw [d2] at hfin
            exact ⟨ret_sl d1, hfin⟩
      · have he' : eqS (nthT l k).1 (nthT l p).1 = false ∨ eqS (nthT l k).1 (nthT l p).1 = true ∧ eqS (nthT l k).2 (nthT l p).2 = false := by
          unfold eqT at he
          cases h1 : eqS (nthT l k).1 (nthT l p).1 with
          | false => exact .inl rfl
          | true => rw [h1] at he; exact .inr ⟨rfl, by simpa using he⟩
        have HE := Lib.hid he
        clear he
        rcases he' with e1 | ⟨e1, e2⟩
        all_goals
          (try unfold eqS at e1)
          (try unfold eqS at e2)
          go_wp2_with fail
          go_quiet (fail)
          go_wp2
          go_roundw
          case rel => exact ⟨k + 1, by omega, by omega, by go_num, Lib.hid (dd_step (by omega) (by rw [← HL.out]; exact hlt) hd.out (by rw [← HP.out]; exact HE.out)), HST.out.drewN _⟩
          case measure => simp [intOf]; omega
    · have hkL : k = L := by omega
      subst hkL
      clear hst
      go_wp2
      go_ret
      have e := hd.out
      rw [HL.out, List.take_length] at e
      rw [e]
      exact ⟨ret_sl HL.out, HST.out⟩
end Go.Proofs.Ytbdceeecngibmaa.Va
