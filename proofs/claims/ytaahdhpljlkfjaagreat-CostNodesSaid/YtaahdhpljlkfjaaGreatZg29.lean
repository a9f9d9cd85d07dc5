/- Rank, both: how many releases are newer. -/
import Derived.Test.YtaahdhpljlkfjaaGreatZg11
import Derived.Test.YtaahdhpljlkfjaaGreatZg18
namespace Go.Proofs.YtaahdhpljlkfjaaGreat.Rc
open Go.RowKit

def relIs (x : Rel) (s : ByteArray) : Bool := eqS x.1 s
def newer (x : Rel) (s : ByteArray) : Bool := decide (Ver.compare x.1.data.toList s.data.toList = 1)
def cntK (x : Pkg) (s : ByteArray) (k : Nat) : Nat := ((x.rels.take k).filter (fun r => newer r s)).length
theorem cntK_zero (x : Pkg) (s : ByteArray) : cntK x s 0 = 0 := rfl
theorem cntK_le (x : Pkg) (s : ByteArray) (k : Nat) : cntK x s k ≤ k := Nat.le_trans (List.length_filter_le _ _) (by rw [List.length_take]; omega)
theorem cntK_yes {x : Pkg} {s : ByteArray} {k : Nat} (hk : k < x.rels.length) (h : newer (nth x.rels k) s = true) : cntK x s (k + 1) = cntK x s k + 1 := by
  unfold cntK; rw [filter_snoc hk, h]; simp
theorem cntK_no {x : Pkg} {s : ByteArray} {k : Nat} (hk : k < x.rels.length) (h : newer (nth x.rels k) s = false) : cntK x s (k + 1) = cntK x s k := by
  unfold cntK; rw [filter_snoc hk, h]; simp
def rankI (x : Pkg) (s : ByteArray) : Int := if x.rels.any (fun r => relIs r s) then (cntK x s x.rels.length : Nat) else -1
theorem rankI_yes {x : Pkg} {s : ByteArray} (h : x.rels.any (fun r => relIs r s) = true) : rankI x s = (cntK x s x.rels.length : Nat) := by unfold rankI; rw [if_pos h]
theorem rankI_no {x : Pkg} {s : ByteArray} (h : x.rels.any (fun r => relIs r s) = false) : rankI x s = -1 := by unfold rankI; rw [h]; rfl
theorem less_new (x : Rel) (s : ByteArray) : Ver.less s.data.toList x.1.data.toList = newer x s := by
  unfold Ver.less newer
  rw [Ver.compare_anti x.1.data.toList s.data.toList]
  rcases Ver.compare_range x.1.data.toList s.data.toList with h | h | h <;> rw [h] <;> decide
theorem new_of {x : Rel} {s : ByteArray} {m : Int} (h : Ver.compare x.1.data.toList s.data.toList = m) : newer x s = decide (m = 1) := by unfold newer; rw [h]
theorem ver_is (a b : ByteArray) (n : Int) (h : Ver.compare a.data.toList b.data.toList = n) (w : World) :
    Calls Tryz.prog 48 #[.string a, .string b] w fun e w' => e = .returned (.int .i64 n) ∧ Below w.heap.size w w' := by
  subst h; exact Ver.compare_any a b w
theorem less_is (a b : ByteArray) (v : Bool) (h : Ver.less a.data.toList b.data.toList = v) (w : World) :
    Calls Tryz.prog 54 #[.string a, .string b] w fun e w' => e = .returned (.bool v) ∧ Below w.heap.size w w' := by
  subst h; exact Ver.less_any a b w

theorem rank1_any (w : World) (x : Rel) (s : ByteArray) (P : Nat) (hP : w.cell? ⟨P, 0, none⟩ = some (.string s)) :
    Calls Tryz.prog 47 #[.agg #[.string x.1, .bool x.2], .pointer (some ⟨P, 0, none⟩)] w fun e w' => e = .returned (.bool (relIs x s)) ∧ Below w.heap.size w w' := by
  have hb0 := below_alloc' w (.cells #[.string x.1, .bool x.2] 70)
  have hlt := World.block_lt_of_cell? w _ hP
  have hc1 := (hb0.cell (p := ⟨P, 0, none⟩) hlt).trans hP
  have hPn : ¬ P = w.heap.size := by simp at hlt; omega
  have HB := Lib.hid hb0
  clear hb0 hP
  go_enter Tryz.func47, Tryz.ntmps47
  go_wp2
  refine bodyPost_ret (v := .bool (relIs x s)) (by simp [results, Tryz.results47, go_sem, relIs, eqS, Va.eqS]) rfl ⟨rfl, HB.out⟩

set_option maxRecDepth 100000 in
set_option maxHeartbeats 1600000 in
theorem idx_rank (w : World) (v : Value) (l : List Rel) (s : ByteArray) (P : Nat) (h : RowD relK w v l) (hP0 : w.cell? ⟨P, 0, none⟩ = some (.string s)) :
    Calls Tryz.prog 66 #[v, .func (.func 47) #[] #[.pointer (some ⟨P, 0, none⟩)]] w fun e w' => e = .returned (.int .i64 (idx (fun x => relIs x s) l)) ∧ Below w.heap.size w w' := by
  obtain ⟨A, L, c, rfl, hL, h1, h2⟩ := h.open'
  unfold maxLen at h2
  have H := Lib.hid h
  have HL := Lib.hid hL
  have HP0 := Lib.hid hP0
  have hlp := World.block_lt_of_cell? w _ hP0
  clear h hL hP0
  go_enter Tryz.func66, Tryz.ntmps66
  go_wp2
  go_loopw [8] (fun i wr => ∃ k : Nat, k ≤ L ∧ i = .int .i64 k ∧ Hid ((l.take k).any (fun x => relIs x s) = false) ∧ Below w.heap.size w wr) (fun i _ => L - (intOf i).toNat)
  case atStart => exact ⟨0, Nat.zero_le _, rfl, Lib.hid (by simp), Below.refl _ _⟩
  case round =>
    obtain ⟨k, hk, rfl, hall, hbw⟩ := hrel
    have HBW := Lib.hid hbw
    by_cases hlt : k < L
    · obtain ⟨b, off, rfl, hb, hs, c0, c1⟩ := rel_at (H.out.below hbw (Nat.le_refl _)) hlt
      have qP0 := Lib.hid ((hbw.cell (p := ⟨P, 0, none⟩) hlp).trans HP0.out)
      have hkl : k < l.length := by rw [← HL.out]; exact hlt
      have HS := Lib.hid (any_snoc hkl (fun x => relIs x s))
      clear hs
      clear hbw
      go_wp2_with fail
      refine (rank1_any _ _ _ P  qP0.out).mono ?_
      rintro e w1 ⟨rfl, hb1⟩
      have HB1 := Lib.hid (HBW.out.trans (hb1.mono HBW.out.size))
      clear hb1
      cases he : relIs (nth l k) s with
      | true =>
        have Hv := Lib.hid (idx_hit hkl hall.out (p := (fun x => relIs x s)) he)
        clear he hkl
        go_wp2
        go_ret
        exact ⟨ret_int Hv.out.symm, HB1.out⟩
      | false =>
        have hn : Hid ((l.take (k + 1)).any (fun x => relIs x s) = false) := Lib.hid (by rw [HS.out, hall.out]; simpa using he)
        clear he hkl
        go_wp2
        go_roundw
        case rel => exact ⟨k + 1, by omega, by go_num, hn, HB1.out⟩
        case measure => simp [intOf]; omega
    · obtain rfl : k = L := by omega
      have Hv := Lib.hid (show idx (fun x => relIs x s) l = -1 from idx_miss (by
        have := hall.out
        rwa [HL.out, List.take_length] at this))
      clear hbw
      go_wp2
      go_ret
      exact ⟨ret_int Hv.out.symm, HBW.out⟩

theorem has_rank (w : World) (v : Value) (l : List Rel) (s : ByteArray) (P : Nat) (h : RowD relK w v l) (hP0 : w.cell? ⟨P, 0, none⟩ = some (.string s)) : Calls Tryz.prog 46 #[v, .func (.func 47) #[] #[.pointer (some ⟨P, 0, none⟩)]] w fun e w' => e = .returned (.bool (l.any (fun x => relIs x s))) ∧ Below w.heap.size w w' := by
  obtain ⟨r, hr⟩ : ∃ r, idx (fun x => relIs x s) l = r := ⟨_, rfl⟩
  have hc := idx_rank w v l s P h hP0
  rw [hr] at hc
  have HC := Lib.hid hc
  have HR := Lib.hid hr
  clear h hP0 hc hr
  go_enter Tryz.func46, Tryz.ntmps46
  go_wp2_with fail
  refine HC.out.mono ?_
  rintro e w1 ⟨rfl, hb⟩
  go_wp2
  go_ret
  exact ⟨ret_bool (by rw [← idx_any (fun x => relIs x s) l, HR.out]), hb⟩


theorem has_rank_is (w : World) (v : Value) (l : List Rel) (s : ByteArray) (P : Nat) (h : RowD relK w v l) (hP0 : w.cell? ⟨P, 0, none⟩ = some (.string s)) (b : Bool) (hb : l.any (fun x => relIs x s) = b) :
    Calls Tryz.prog 46 #[v, .func (.func 47) #[] #[.pointer (some ⟨P, 0, none⟩)]] w fun e w' => e = .returned (.bool b) ∧ Below w.heap.size w w' := by subst hb; exact has_rank w v l s P h hP0

set_option maxRecDepth 100000 in
set_option maxHeartbeats 1600000 in
theorem rank_is (w : World) (v1 v2 v3 v4 v5 v6 : Value) (x : Pkg) (s : ByteArray) (h : IsPkg w v1 v2 v3 v4 v5 v6 x) (n : Int) (hn : rankI x s = n) :
    Calls Tryz.prog 23 #[.agg #[.string x.name, .int .i64 x.line, v1, v2, v3, v4, v5, v6], .string s] w fun e w' => e = .returned (.int .i64 n) ∧ Below w.heap.size w w' := by
  obtain ⟨⟨a1, n1, k1, rfl⟩, ⟨a2, n2, k2, rfl⟩, ⟨a3, n3, k3, rfl⟩, ⟨a4, n4, k4, rfl⟩, ⟨a5, n5, k5, rfl⟩, ⟨a6, n6, k6, rfl⟩⟩ := h.sls
  have HX := Lib.hid (Bxs.two w #[.string x.name, .int .i64 x.line, .slice a1 n1 k1, .slice a2 n2 k2, .slice a3 n3 k3, .slice a4 n4 k4, .slice a5 n5 k5, .slice a6 n6 k6] 51 #[.string s] 9)
  have HR := Lib.hid h.rels
  have HN := Lib.hid hn
  have HL := Lib.hid h.rels.len
  have hcap := h.rels.cap
  obtain ⟨b, hb⟩ : ∃ b, x.rels.any (fun r => relIs r s) = b := ⟨_, rfl⟩
  have HB := Lib.hid hb
  clear h hn hb
  have x2 := HX.out.get0 2 (v := .slice a1 n1 k1) rfl rfl
  have xs := HX.out.get 1 0 (v := .string s) rfl rfl
  go_enter Tryz.func23, Tryz.ntmps23
  go_wp2_with fail
  refine (has_rank_is _ _ x.rels s _ (HR.out.below HX.out.bel (Nat.le_refl _)) (HX.out.get 1 0 (v := .string s) rfl rfl) b HB.out).mono ?_
  rintro e w1 ⟨rfl, hb1⟩
  have HX1 := Lib.hid (HX.out.step hb1)
  clear hb1 x2 xs HX
  have x2 := HX1.out.get0 2 (v := .slice a1 n1 k1) rfl rfl
  cases b with
  | false =>
    have HV := Lib.hid (show n = -1 by rw [← HN.out, rankI_no HB.out])
    go_wp2
    go_ret
    exact ⟨ret_int HV.out.symm, HX1.out.bel⟩
  | true =>
    have HV := Lib.hid (show n = (cntK x s x.rels.length : Nat) by rw [← HN.out, rankI_yes HB.out])
    clear HN HB
    go_wp2
    go_loopw [5, 16] (fun t i wr => ∃ k : Nat, k ≤ n1 ∧ i = .int .i64 k ∧ t = .int .i64 (cntK x s k : Nat) ∧ Bxs w wr [(#[.string x.name, .int .i64 x.line, .slice a1 n1 k1, .slice a2 n2 k2, .slice a3 n3 k3, .slice a4 n4 k4, .slice a5 n5 k5, .slice a6 n6 k6], 51), (#[.string s], 9)]) (fun _ i _ => n1 - (intOf i).toNat)
    case atStart => exact ⟨0, Nat.zero_le _, rfl, rfl, HX1.out⟩
    case round =>
      clear HX1 x2
      obtain ⟨k, hk, rfl, rfl, hx⟩ := hrel
      have HX := Lib.hid hx
      have HCK := Lib.hid (cntK_le x s k)
      by_cases hlt : k < n1
      · obtain ⟨b, off, rfl, hb, hs, c0, c1⟩ := rel_at (HR.out.below hx.bel (Nat.le_refl _)) hlt
        have HKL := Lib.hid (show k < x.rels.length by rw [← HL.out]; exact hlt)
        generalize hw1 : wr.alloc (.cells #[.string (nth x.rels k).1, .bool (nth x.rels k).2] 70) = w1
        have HW1 := Lib.hid hw1
        have hbox := Boxed.new wr #[.string (nth x.rels k).1, .bool (nth x.rels k).2] 70
        rw [hw1] at hbox
        have HX1 := Lib.hid (hx.step hbox.bel)
        have xs1 := (hx.alloc (.cells #[.string (nth x.rels k).1, .bool (nth x.rels k).2] 70)).get 1 0 (v := .string s) rfl rfl
        obtain ⟨m, hm⟩ : ∃ m, Ver.compare (nth x.rels k).1.data.toList s.data.toList = m := ⟨_, rfl⟩
        have HM := Lib.hid hm
        have hr := Ver.compare_range (nth x.rels k).1.data.toList s.data.toList
        rw [hm] at hr
        have hck : cntK x s k ≤ 9223372036854775806 := by have := HCK.out; omega
        clear hm hw1 hbox hs hb hx
        go_wp2_with fail
        rw [HW1.out]
        refine (ver_is _ _ m HM.out _).mono ?_
        rintro e w2 ⟨rfl, hb2⟩
        have HX2 := Lib.hid (HX1.out.step hb2)
        have HM2 := Lib.hid (new_of HM.out)
        clear hb2 xs1 HX1 c0 c1
        rcases hr with rfl | rfl | rfl
        · go_wp2
          go_roundw
          case rel => exact ⟨k + 1, by omega, by go_num, by rw [cntK_no HKL.out (by rw [HM2.out]; rfl)], HX2.out⟩
          case measure => simp [intOf]; omega
        · go_wp2
          go_roundw
          case rel => exact ⟨k + 1, by omega, by go_num, by rw [cntK_no HKL.out (by rw [HM2.out]; rfl)], HX2.out⟩
          case measure => simp [intOf]; omega
        · go_wp2
          go_roundw
          case rel => exact ⟨k + 1, by omega, by go_num, by rw [cntK_yes HKL.out (by rw [HM2.out]; rfl)]; go_num, HX2.out⟩
          case measure => simp [intOf]; omega
      · obtain rfl : k = n1 := by omega
        have HV2 := Lib.hid (show n = (cntK x s k : Nat) by rw [HV.out, HL.out])
        clear hx
        go_wp2
        go_ret
        exact ⟨ret_int HV2.out.symm, HX.out.bel⟩


set_option maxRecDepth 100000 in
set_option maxHeartbeats 1600000 in
theorem refRank_is (w : World) (v1 v2 v3 v4 v5 v6 : Value) (x : Pkg) (s : ByteArray) (h : IsPkg w v1 v2 v3 v4 v5 v6 x) (n : Int) (hn : rankI x s = n) :
    Calls Tryz.prog 27 #[.agg #[.string x.name, .int .i64 x.line, v1, v2, v3, v4, v5, v6], .string s] w fun e w' => e = .returned (.int .i64 n) ∧ Below w.heap.size w w' := by
  obtain ⟨⟨a1, n1, k1, rfl⟩, ⟨a2, n2, k2, rfl⟩, ⟨a3, n3, k3, rfl⟩, ⟨a4, n4, k4, rfl⟩, ⟨a5, n5, k5, rfl⟩, ⟨a6, n6, k6, rfl⟩⟩ := h.sls
  have HX := Lib.hid (Bxs.one w #[.string x.name, .int .i64 x.line, .slice a1 n1 k1, .slice a2 n2 k2, .slice a3 n3 k3, .slice a4 n4 k4, .slice a5 n5 k5, .slice a6 n6 k6] 51)
  have HR := Lib.hid h.rels
  have HN := Lib.hid hn
  have HL := Lib.hid h.rels.len
  have hcap := h.rels.cap
  clear h hn
  have x2 := HX.out.get0 2 (v := .slice a1 n1 k1) rfl rfl
  go_enter Tryz.func27, Tryz.ntmps27
  go_wp2
  go_loopw [5, 6, 11] (fun t u i wr => ∃ k : Nat, k ≤ n1 ∧ i = .int .i64 k ∧ t = .int .i64 (cntK x s k : Nat) ∧ u = .bool ((x.rels.take k).any (fun r => relIs r s)) ∧ Bxs w wr [(#[.string x.name, .int .i64 x.line, .slice a1 n1 k1, .slice a2 n2 k2, .slice a3 n3 k3, .slice a4 n4 k4, .slice a5 n5 k5, .slice a6 n6 k6], 51)]) (fun _ _ i _ => n1 - (intOf i).toNat)
  case atStart => exact ⟨0, Nat.zero_le _, rfl, rfl, rfl, HX.out⟩
  case round =>
    clear HX x2
    obtain ⟨k, hk, rfl, rfl, rfl, hx⟩ := hrel
    have HX := Lib.hid hx
    have HCK := Lib.hid (cntK_le x s k)
    obtain ⟨b0, hb0⟩ : ∃ b0, (x.rels.take k).any (fun r => relIs r s) = b0 := ⟨_, rfl⟩
    rw [hb0]
    have HB0 := Lib.hid hb0
    clear hb0
    by_cases hlt : k < n1
    · obtain ⟨b, off, rfl, hb, hs, c0, c1⟩ := rel_at (HR.out.below hx.bel (Nat.le_refl _)) hlt
      have x2 := HX.out.get0 2 (v := .slice (some ⟨b, off, none⟩) n1 k1) rfl rfl
      have HKL := Lib.hid (show k < x.rels.length by rw [← HL.out]; exact hlt)
      have HS := Lib.hid (any_snoc HKL.out (fun r => relIs r s))
      obtain ⟨m, hm⟩ : ∃ m, newer (nth x.rels k) s = m := ⟨_, rfl⟩
      have HM := Lib.hid ((less_new _ _).trans hm)
      have HM2 := Lib.hid hm
      have hck : cntK x s k ≤ 9223372036854775806 := by have := HCK.out; omega
      obtain ⟨b1, hb1⟩ : ∃ b1, relIs (nth x.rels k) s = b1 := ⟨_, rfl⟩
      have hb2 : ((nth x.rels k).1.toList == s.toList) = b1 := hb1
      have HB1 := Lib.hid hb1
      clear hm hb hs hx hb1
      have HN2 := Lib.hid (show (x.rels.take (k + 1)).any (fun r => relIs r s) = (b0 || b1) by rw [HS.out, HB0.out, HB1.out])
      cases b0 <;> cases b1
      all_goals
        go_wp2_with fail
        refine (less_is _ _ m HM.out _).mono ?_
        rintro e w2 ⟨rfl, hb2⟩
        have HX2 := Lib.hid (HX.out.step hb2)
        clear hb2 x2 c0 c1
        cases m with
        | false =>
          go_wp2
          go_roundw
          case rel => exact ⟨k + 1, by omega, by go_num, by rw [cntK_no HKL.out HM2.out], by rw [HN2.out]; rfl, HX2.out⟩
          case measure => simp [intOf]; omega
        | true =>
          go_wp2
          go_roundw
          case rel => exact ⟨k + 1, by omega, by go_num, by rw [cntK_yes HKL.out HM2.out]; go_num, by rw [HN2.out]; rfl, HX2.out⟩
          case measure => simp [intOf]; omega
    · obtain rfl : k = n1 := by omega
      clear hx
      have HB1 := Lib.hid (show x.rels.any (fun r => relIs r s) = b0 by rw [← HB0.out, HL.out, List.take_length])
      cases b0 with
      | false =>
        have HV := Lib.hid (show n = -1 by rw [← HN.out, rankI_no HB1.out])
        go_wp2
        go_ret
        exact ⟨ret_int HV.out.symm, HX.out.bel⟩
      | true =>
        have HV2 := Lib.hid (show n = (cntK x s k : Nat) by rw [← HN.out, rankI_yes HB1.out, HL.out])
        go_wp2
        go_ret
        exact ⟨ret_int HV2.out.symm, HX.out.bel⟩
end Go.Proofs.YtaahdhpljlkfjaaGreat.Rc
