/- What is wrong with settings, and wishes. -/
import Derived.Test.YtggejmojbebhfaaRcMath2
import Derived.Test.YtggejmojbebhfaaRcFind2
import Derived.Deep.RegionHeld3
import Derived.Deep.RegionWith
import Derived.Lib.QuietBelow
namespace Go.Proofs.Ytggejmojbebhfaa.Rc
open Go.RowKit Go.Sort

theorem sett1_any (w : World) (v1 : Value) (x : Var) (s t : ByteArray) (P : Nat) (h : RowD strK w v1 x.2) (hP0 : w.cell? ⟨P, 0, none⟩ = some (.string s)) (hP1 : w.cell? ⟨P, 1, none⟩ = some (.string t)) :
    Calls Try.prog 92 #[.agg #[.string x.1, v1], .pointer (some ⟨P, 0, none⟩)] w fun e w' => e = .returned (.bool (settP x s t)) ∧ Below w.heap.size w w' := by
  have hb0 := below_alloc' w (.cells #[.string x.1, v1] 98)
  have hlt := World.block_lt_of_cell? w _ hP0
  have hc0 := (hb0.cell (p := ⟨P, 0, none⟩) hlt).trans hP0
  have hc1 := (hb0.cell (p := ⟨P, 1, none⟩) hlt).trans hP1
  have hPn : ¬ P = w.heap.size := by simp at hlt; omega
  have HB := Lib.hid hb0
  have HS := Lib.hid (to_strs (h.below hb0 (Nat.le_refl _)))
  obtain ⟨A, L, c, rfl⟩ := h.sl
  clear hb0 hP0 hP1 h
  unfold settP
  cases he : eqS x.1 s with
  | false =>
    have e1 : (x.1.toList == s.toList) = false := he
    clear he
    go_enter Try.func92, Try.ntmps92
    go_wp2
    go_ret
    exact ⟨rfl, HB.out⟩
  | true =>
    have e1 : (x.1.toList == s.toList) = true := he
    clear he
    go_enter Try.func92, Try.ntmps92
    go_wp2_with fail
    refine (Va.contains_any _ _ _ _ HS.out).mono ?_
    rintro e w' ⟨rfl, rfl⟩
    go_wp2
    go_ret
    exact ⟨ret_bool (by simp), HB.out⟩

set_option maxRecDepth 100000 in
set_option maxHeartbeats 1600000 in
theorem idx_sett (w : World) (v : Value) (l : List Var) (s : ByteArray) (t : ByteArray) (P : Nat) (h : RowD varK w v l) (hP0 : w.cell? ⟨P, 0, none⟩ = some (.string s)) (hP1 : w.cell? ⟨P, 1, none⟩ = some (.string t)) :
    Calls Try.prog 108 #[v, .func (.func 92) #[] #[.pointer (some ⟨P, 0, none⟩)]] w fun e w' => e = .returned (.int .i64 (idx (fun x => settP x s t) l)) ∧ Below w.heap.size w w' := by
  obtain ⟨A, L, c, rfl, hL, h1, h2⟩ := h.open'
  unfold maxLen at h2
  have H := Lib.hid h
  have HL := Lib.hid hL
  have HP0 := Lib.hid hP0; have HP1 := Lib.hid hP1
  have hlp := World.block_lt_of_cell? w _ hP0
  clear h hL hP0 hP1
  go_enter Try.func108, Try.ntmps108
  go_wp2
  go_loopw [8] (fun i wr => ∃ k : Nat, k ≤ L ∧ i = .int .i64 k ∧ Hid ((l.take k).any (fun x => settP x s t) = false) ∧ Below w.heap.size w wr) (fun i _ => L - (intOf i).toNat)
  case atStart => exact ⟨0, Nat.zero_le _, rfl, Lib.hid (by simp), Below.refl _ _⟩
  case round =>
    obtain ⟨k, hk, rfl, hall, hbw⟩ := hrel
    have HBW := Lib.hid hbw
    by_cases hlt : k < L
    · obtain ⟨b, off, v1, rfl, hb, hs, hr, c0, c1⟩ := var_at (H.out.below hbw (Nat.le_refl _)) hlt
      have qP0 := Lib.hid ((hbw.cell (p := ⟨P, 0, none⟩) hlp).trans HP0.out); have qP1 := Lib.hid ((hbw.cell (p := ⟨P, 1, none⟩) hlp).trans HP1.out)
      have hkl : k < l.length := by rw [← HL.out]; exact hlt
      have HS := Lib.hid (any_snoc hkl (fun x => settP x s t))
      have HE := Lib.hid hr; clear hr hs
      clear hbw
      go_wp2_with fail
      refine (sett1_any _ _ _ _ _ P HE.out qP0.out qP1.out).mono ?_
      rintro e w1 ⟨rfl, hb1⟩
      have HB1 := Lib.hid (HBW.out.trans (hb1.mono HBW.out.size))
      clear hb1
      cases he : settP (nth l k) s t with
      | true =>
        have Hv := Lib.hid (idx_hit hkl hall.out (p := (fun x => settP x s t)) he)
        clear he hkl
        go_wp2
        go_ret
        exact ⟨ret_int Hv.out.symm, HB1.out⟩
      | false =>
        have hn : Hid ((l.take (k + 1)).any (fun x => settP x s t) = false) := Lib.hid (by rw [HS.out, hall.out]; simpa using he)
        clear he hkl
        go_wp2
        go_roundw
        case rel => exact ⟨k + 1, by omega, by go_num, hn, HB1.out⟩
        case measure => simp [intOf]; omega
    · obtain rfl : k = L := by omega
      have Hv := Lib.hid (show idx (fun x => settP x s t) l = -1 from idx_miss (by
        have := hall.out
        rwa [HL.out, List.take_length] at this))
      clear hbw
      go_wp2
      go_ret
      exact ⟨ret_int Hv.out.symm, HBW.out⟩

theorem has_sett (w : World) (v : Value) (l : List Var) (s : ByteArray) (t : ByteArray) (P : Nat) (h : RowD varK w v l) (hP0 : w.cell? ⟨P, 0, none⟩ = some (.string s)) (hP1 : w.cell? ⟨P, 1, none⟩ = some (.string t)) : Calls Try.prog 90 #[v, .func (.func 92) #[] #[.pointer (some ⟨P, 0, none⟩)]] w fun e w' => e = .returned (.bool (l.any (fun x => settP x s t))) ∧ Below w.heap.size w w' := by
  obtain ⟨r, hr⟩ : ∃ r, idx (fun x => settP x s t) l = r := ⟨_, rfl⟩
  have hc := idx_sett w v l s t P h hP0 hP1
  rw [hr] at hc
  have HC := Lib.hid hc
  have HR := Lib.hid hr
  clear h hP0 hP1 hc hr
  go_enter Try.func90, Try.ntmps90
  go_wp2_with fail
  refine HC.out.mono ?_
  rintro e w1 ⟨rfl, hb⟩
  go_wp2
  go_ret
  exact ⟨ret_bool (by rw [← idx_any (fun x => settP x s t) l, HR.out]), hb⟩


set_option maxRecDepth 100000 in
set_option maxHeartbeats 1600000 in
theorem settingsCode_any (w : World) (v1 v2 v3 v4 v5 v6 u1 u2 : Value) (p : Pkg) (s : Spec) (hp : IsPkg w v1 v2 v3 v4 v5 v6 p) (hs : IsSpec w u1 u2 s) :
    Calls Try.prog 67 #[.agg #[.string p.name, .int .i64 p.line, v1, v2, v3, v4, v5, v6], .agg #[.string s.name, u1, u2]] w fun e w' => e = .returned (.int .u8 (settCode p s.sets)) ∧ Below w.heap.size w w' := by
  obtain ⟨⟨a1, n1, k1, rfl⟩, ⟨a2, n2, k2, rfl⟩, ⟨a3, n3, k3, rfl⟩, ⟨a4, n4, k4, rfl⟩, ⟨a5, n5, k5, rfl⟩, ⟨a6, n6, k6, rfl⟩⟩ := hp.sls
  obtain ⟨A, L, c, rfl⟩ := hs.spans.sl
  obtain ⟨B, M, d, rfl, hM, hd1, hd2⟩ := hs.sets.open'
  unfold maxLen at hd2
  have hx := Boxed.new w #[.string p.name, .int .i64 p.line, .slice a1 n1 k1, .slice a2 n2 k2, .slice a3 n3 k3, .slice a4 n4 k4, .slice a5 n5 k5, .slice a6 n6 k6] 45
  generalize hw1 : w.alloc (.cells #[.string p.name, .int .i64 p.line, .slice a1 n1 k1, .slice a2 n2 k2, .slice a3 n3 k3, .slice a4 n4 k4, .slice a5 n5 k5, .slice a6 n6 k6] 45) = w1 at hx
  have hy := Boxed.new w1 #[.string s.name, .slice A L c, .slice B M d] 73
  have hx2 := hx.step hy.bel
  generalize hw2 : w1.alloc (.cells #[.string s.name, .slice A L c, .slice B M d] 73) = w2 at hx2
  have HX2 := Lib.hid hx2
  have HP := Lib.hid (hp.vars)
  have HS := Lib.hid (hs.sets)
  have HM := Lib.hid hM
  have HW1 := Lib.hid hw1
  have HW2 := Lib.hid hw2
  clear hp hs hM hx hy hx2 hw1 hw2
  go_enter Try.func67, Try.ntmps67
  go_wp2
  rw [HW1.out, HW2.out]
  go_loopw [10] (fun i wr => ∃ k : Nat, k ≤ M ∧ i = .int .i64 k ∧ Hid ((s.sets.take k).all (settB p.vars) = true) ∧ Boxed w wr w.heap.size #[.string p.name, .int .i64 p.line, .slice a1 n1 k1, .slice a2 n2 k2, .slice a3 n3 k3, .slice a4 n4 k4, .slice a5 n5 k5, .slice a6 n6 k6] 45) (fun i _ => M - (intOf i).toNat)
  case atStart => exact ⟨0, Nat.zero_le _, rfl, Lib.hid (by simp), HX2.out⟩
  case round =>
    clear HX2
    obtain ⟨k, hk, rfl, hall, hbx⟩ := hrel
    by_cases hlt : k < M
    · obtain ⟨b, off, rfl, hb, hs1, hs2, d0, d1⟩ := set_at (HS.out.below hbx.bel (Nat.le_refl _)) hlt
      have hy := Boxed.new wr #[.string (nth s.sets k).1, .string (nth s.sets k).2] 78
      have x3 := cell_alloc_l (.cells #[.string (nth s.sets k).1, .string (nth s.sets k).2] 78) (hbx.get 3 (v := .slice a2 n2 k2) rfl)
      generalize hw3 : wr.alloc (.cells #[.string (nth s.sets k).1, .string (nth s.sets k).2] 78) = w3 at hy
      have HW3 := Lib.hid hw3
      have hx3 := hbx.step hy.bel
      have HX3 := Lib.hid hx3
      have HY := Lib.hid hy
      have HP3 := Lib.hid (HP.out.below hx3.bel (Nat.le_refl _))
      have hkl : k < s.sets.length := by rw [← HM.out]; exact hlt
      have HSN := Lib.hid (all_snoc hkl (settB p.vars))
      clear hy hx3 hbx hw3
      go_wp2_with fail
      rw [HW3.out]
      refine (has_sett w3 _ p.vars (nth s.sets k).1 (nth s.sets k).2 wr.heap.size HP3.out (HY.out.get 0 rfl) (HY.out.get 1 rfl)).mono ?_
      rintro e w4 ⟨rfl, hb4⟩
      have HX4 := Lib.hid (HX3.out.step hb4)
      clear hb4 x3
      cases he : settB p.vars (nth s.sets k) with
      | true =>
        have he' : (p.vars.any fun x => settP x (nth s.sets k).1 (nth s.sets k).2) = true := he
        have hn : Hid ((s.sets.take (k + 1)).all (settB p.vars) = true) := Lib.hid (by rw [HSN.out, hall.out, he]; rfl)
        rw [he']
        clear he he' hkl
        go_wp2
        go_roundw
        case rel => exact ⟨k + 1, by omega, by go_num, hn, HX4.out⟩
        case measure => simp [intOf]; omega
      | false =>
        have he' : (p.vars.any fun x => settP x (nth s.sets k).1 (nth s.sets k).2) = false := he
        have Hv := Lib.hid (show settCode p s.sets = 8 by unfold settCode settsB; rw [all_at hkl he]; rfl)
        rw [he']
        clear he he' hkl
        go_wp2
        go_ret
        exact ⟨ret_int Hv.out.symm, HX4.out.bel⟩
    · obtain rfl : k = M := by omega
      have Hv := Lib.hid (show settCode p s.sets = 0 by
        have := hall.out
        rw [HM.out, List.take_length] at this
        unfold settCode settsB; rw [this]; rfl)
      have HX4 := Lib.hid hbx.bel
      clear hbx
      go_wp2
      go_ret
      exact ⟨ret_int Hv.out.symm, HX4.out⟩

end Go.Proofs.Ytggejmojbebhfaa.Rc