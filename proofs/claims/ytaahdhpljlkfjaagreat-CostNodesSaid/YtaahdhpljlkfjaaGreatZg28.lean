/- Prefer, both: a package's place among those that are preferred. -/
import Derived.Test.YtaahdhpljlkfjaaGreatZg11
namespace Go.Proofs.YtaahdhpljlkfjaaGreat.Rc
open Go.RowKit

def virtN (x : Pref) (s : ByteArray) : Bool := eqS x.virt s
theorem npref1_any (w : World) (v1 : Value) (x : Pref) (s : ByteArray) (P : Nat) (hP : w.cell? ⟨P, 0, none⟩ = some (.string s)) :
    Calls Tryz.prog 81 #[.agg #[.string x.virt, v1, .int .i64 x.line], .pointer (some ⟨P, 0, none⟩)] w fun e w' => e = .returned (.bool (virtN x s)) ∧ Below w.heap.size w w' := by
  have hb0 := below_alloc' w (.cells #[.string x.virt, v1, .int .i64 x.line] 53)
  have hlt := World.block_lt_of_cell? w _ hP
  have hc1 := (hb0.cell (p := ⟨P, 0, none⟩) hlt).trans hP
  have hPn : ¬ P = w.heap.size := by simp at hlt; omega
  have HB := Lib.hid hb0
  clear hb0 hP
  go_enter Tryz.func81, Tryz.ntmps81
  go_wp2
  refine bodyPost_ret (v := .bool (virtN x s)) (by simp [results, Tryz.results81, go_sem, virtN, eqS, Va.eqS]) rfl ⟨rfl, HB.out⟩

set_option maxRecDepth 100000 in
set_option maxHeartbeats 1600000 in
theorem idx_npref (w : World) (v : Value) (l : List Pref) (s : ByteArray) (P : Nat) (h : RowD prefK w v l) (hP0 : w.cell? ⟨P, 0, none⟩ = some (.string s)) :
    Calls Tryz.prog 80 #[v, .func (.func 81) #[] #[.pointer (some ⟨P, 0, none⟩)]] w fun e w' => e = .returned (.int .i64 (idx (fun x => virtN x s) l)) ∧ Below w.heap.size w w' := by
  obtain ⟨A, L, c, rfl, hL, h1, h2⟩ := h.open'
  unfold maxLen at h2
  have H := Lib.hid h
  have HL := Lib.hid hL
  have HP0 := Lib.hid hP0
  have hlp := World.block_lt_of_cell? w _ hP0
  clear h hL hP0
  go_enter Tryz.func80, Tryz.ntmps80
  go_wp2
  go_loopw [8] (fun i wr => ∃ k : Nat, k ≤ L ∧ i = .int .i64 k ∧ Hid ((l.take k).any (fun x => virtN x s) = false) ∧ Below w.heap.size w wr) (fun i _ => L - (intOf i).toNat)
  case atStart => exact ⟨0, Nat.zero_le _, rfl, Lib.hid (by simp), Below.refl _ _⟩
  case round =>
    obtain ⟨k, hk, rfl, hall, hbw⟩ := hrel
    have HBW := Lib.hid hbw
    by_cases hlt : k < L
    · obtain ⟨b, off, v1, rfl, hb, hs, hr, hw, c0, c1, c2⟩ := pref_at (H.out.below hbw (Nat.le_refl _)) hlt
      have qP0 := Lib.hid ((hbw.cell (p := ⟨P, 0, none⟩) hlp).trans HP0.out)
      have hkl : k < l.length := by rw [← HL.out]; exact hlt
      have HS := Lib.hid (any_snoc hkl (fun x => virtN x s))
      clear hs hr hw
      clear hbw
      go_wp2_with fail
      refine (npref1_any _ _ _ _ P  qP0.out).mono ?_
      rintro e w1 ⟨rfl, hb1⟩
      have HB1 := Lib.hid (HBW.out.trans (hb1.mono HBW.out.size))
      clear hb1
      cases he : virtN (nth l k) s with
      | true =>
        have Hv := Lib.hid (idx_hit hkl hall.out (p := (fun x => virtN x s)) he)
        clear he hkl
        go_wp2
        go_ret
        exact ⟨ret_int Hv.out.symm, HB1.out⟩
      | false =>
        have hn : Hid ((l.take (k + 1)).any (fun x => virtN x s) = false) := Lib.hid (by rw [HS.out, hall.out]; simpa using he)
        clear he hkl
        go_wp2
        go_roundw
        case rel => exact ⟨k + 1, by omega, by go_num, hn, HB1.out⟩
        case measure => simp [intOf]; omega
    · obtain rfl : k = L := by omega
      have Hv := Lib.hid (show idx (fun x => virtN x s) l = -1 from idx_miss (by
        have := hall.out
        rwa [HL.out, List.take_length] at this))
      clear hbw
      go_wp2
      go_ret
      exact ⟨ret_int Hv.out.symm, HBW.out⟩



def txtIs (s y : ByteArray) : Bool := eqS y s
def inRow (l : List ByteArray) (s : ByteArray) : Int := if l.any (txtIs s) then idx (txtIs s) l else l.length
theorem inRow_yes {l : List ByteArray} {s : ByteArray} (h : l.any (txtIs s) = true) : inRow l s = idx (txtIs s) l := by unfold inRow; rw [if_pos h]
theorem inRow_no {l : List ByteArray} {s : ByteArray} (h : l.any (txtIs s) = false) : inRow l s = l.length := by unfold inRow; rw [h]; rfl
def prefR (x : Rec) (v s : ByteArray) : Int := if x.prefs.any (fun f => virtN f v) then inRow (nth x.prefs (idx (fun f => virtN f v) x.prefs).toNat).names s else 0
theorem prefR_no {x : Rec} {v s : ByteArray} (h : x.prefs.any (fun f => virtN f v) = false) : prefR x v s = 0 := by unfold prefR; rw [h]; rfl
theorem prefR_at {x : Rec} {v s : ByteArray} {k : Nat} (h : x.prefs.any (fun f => virtN f v) = true) (hk : idx (fun f => virtN f v) x.prefs = k) : prefR x v s = inRow (nth x.prefs k).names s := by unfold prefR; rw [h, hk]; rfl

set_option maxHeartbeats 800000 in
theorem indexS_any (w : World) (v : Value) (l : List ByteArray) (s : ByteArray) (h : RowD strK w v l) :
    Calls Tryz.prog 79 #[v, .string s] w fun e w' => e = .returned (.int .i64 (idx (txtIs s) l)) ∧ w = w' := by
  obtain ⟨A, L, c, rfl⟩ := h.sl
  have H := Lib.hid h
  have HL := Lib.hid h.len
  have hc := h.cap
  clear h
  go_enter Tryz.func79, Tryz.ntmps79
  go_wp2
  go_loop [8] (fun i => ∃ k : Nat, k ≤ L ∧ i = .int .i64 k ∧ Hid ((l.take k).any (txtIs s) = false)) (fun i => L - (intOf i).toNat)
  case atStart => exact ⟨0, Nat.zero_le _, rfl, Lib.hid (by simp)⟩
  case round =>
    obtain ⟨k, hk, rfl, HN⟩ := hrel
    by_cases hlt : k < L
    · have HKL := Lib.hid (show k < l.length by rw [← HL.out]; exact hlt)
      obtain ⟨b, off, rfl, hb, hz, c0⟩ := str_at H.out hlt
      obtain ⟨y, hy⟩ : ∃ y, nth l k = y := ⟨_, rfl⟩
      rw [hy] at c0
      have HY := Lib.hid hy
      clear hy hb hz
      obtain ⟨q, hq⟩ : ∃ q, txtIs s y = q := ⟨_, rfl⟩
      have HQ := Lib.hid hq
      have e1 : (s.toList == y.toList) = q := (Va.eqS_comm _ _).trans hq
      clear hq
      cases q with
      | true =>
        have HV := Lib.hid (idx_hit HKL.out HN.out (p := txtIs s) (by rw [HY.out]; exact HQ.out))
        go_wp2
        go_ret
        exact ⟨ret_int HV.out.symm, rfl⟩
      | false =>
        have hn := Lib.hid (show (l.take (k + 1)).any (txtIs s) = false by rw [any_snoc HKL.out, HN.out, HY.out, HQ.out]; rfl)
        go_wp2
        go_round
        case rel => exact ⟨k + 1, by omega, by go_num, hn⟩
        case measure => simp [intOf]; omega
    · obtain rfl : k = L := by omega
      have HV := Lib.hid (show idx (txtIs s) l = -1 from idx_miss (by
        have := HN.out
        rwa [HL.out, List.take_length] at this))
      go_wp2
      go_ret
      exact ⟨ret_int HV.out.symm, rfl⟩


set_option maxRecDepth 100000 in
set_option maxHeartbeats 1600000 in
theorem prefer10_is (w : World) (v1 v2 : Value) (x : Rec) (v s : ByteArray) (h : IsRec w v1 v2 x) (n : Int) (hn : prefR x v s = n) :
    Calls Tryz.prog 53 #[.agg #[v1, v2], .string v, .string s] w fun e w' => e = .returned (.int .i64 n) ∧ Below w.heap.size w w' := by
  obtain ⟨A1, L1, c1, A2, L2, c2, rfl, rfl, hL1, hL2, hc1, hm1, hc2, hm2⟩ := rec_box h
  have HX := Lib.hid (Bxs.two w #[.slice A1 L1 c1, .slice A2 L2 c2] 25 #[.string v] 9)
  have HR := Lib.hid h
  have HN := Lib.hid hn
  obtain ⟨r, hr⟩ : ∃ r, idx (fun f => virtN f v) x.prefs = r := ⟨_, rfl⟩
  have HRR := Lib.hid hr
  have HC := Lib.hid (idx_npref _ _ x.prefs v (w.heap.size + 1) (HR.out.prefs.below HX.out.bel (Nat.le_refl _)) (HX.out.get 1 0 (v := .string v) rfl rfl))
  rw [hr] at HC
  have hnn : decide (0 ≤ r) = x.prefs.any (fun f => virtN f v) := by rw [← hr]; exact idx_any (fun f => virtN f v) x.prefs
  obtain ⟨b, hb⟩ : ∃ b, x.prefs.any (fun f => virtN f v) = b := ⟨_, rfl⟩
  rw [hb] at hnn
  have HB := Lib.hid hb
  have x1 := HX.out.get0 1 (v := .slice A2 L2 c2) rfl rfl
  cases b with
  | false =>
    have hlt : r < 0 := by simpa using hnn
    have HV := Lib.hid (show n = 0 by rw [← HN.out, prefR_no HB.out])
    clear h hn hr hnn hb hL1 hL2
    go_enter Tryz.func53, Tryz.ntmps53
    go_wp2_with fail
    refine HC.out.mono ?_
    rintro e w1 ⟨rfl, hb1⟩
    have HX1 := Lib.hid (HX.out.step hb1)
    clear hb1 x1
    go_wp2
    go_ret
    exact ⟨ret_int HV.out.symm, HX1.out.bel⟩
  | true =>
    have hge : 0 ≤ r := by simpa using hnn
    obtain ⟨k, hk, hkl, hkp⟩ := idx_at (p := fun f => virtN f v) (l := x.prefs) (by rw [hr]; exact hge)
    obtain rfl : r = (k : Int) := hr.symm.trans hk
    have hkL : k < L2 := by omega
    have HV := Lib.hid (prefR_at (s := s) HB.out hk)
    have hlt : ¬ (k : Int) < 0 := by omega
    have HKL := Lib.hid hkL
    clear h hn hr hnn hb hL1 hL2 hkp hkl hk hge
    go_enter Tryz.func53, Tryz.ntmps53
    go_wp2_with fail
    refine HC.out.mono ?_
    rintro e w1 ⟨rfl, hb1⟩
    have HX1 := Lib.hid (HX.out.step hb1)
    obtain ⟨bb, off, u, rfl, hbl, hs, hrw, hw, p0, p1, p2⟩ := pref_at (HR.out.prefs.below HX1.out.bel (Nat.le_refl _)) HKL.out
    obtain ⟨B, M, d, rfl⟩ := hrw.sl
    have HF := Lib.hid hrw
    have HM := Lib.hid hrw.len
    clear hb1 x1 hs hw hbl hrw
    have x1 := HX1.out.get0 1 (v := .slice (some ⟨bb, off, none⟩) L2 c2) rfl rfl
    have k0 : (0 : Int) ≤ (k : Int) := by omega
    have k1 : (k : Int) < (L2 : Int) := by omega
    obtain ⟨m, hm⟩ : ∃ m, idx (txtIs s) (nth x.prefs k).names = m := ⟨_, rfl⟩
    have HI := Lib.hid (indexS_any w1 _ _ s HF.out)
    rw [hm] at HI
    have hmm : decide (0 ≤ m) = (nth x.prefs k).names.any (txtIs s) := by rw [← hm]; exact idx_any (txtIs s) (nth x.prefs k).names
    obtain ⟨q, hq⟩ : ∃ q, (nth x.prefs k).names.any (txtIs s) = q := ⟨_, rfl⟩
    rw [hq] at hmm
    cases q with
    | true =>
      have HV2 := Lib.hid (show n = m by rw [← HN.out, HV.out, inRow_yes hq, hm])
      have hm0 : 0 ≤ m := by simpa using hmm
      clear hq hm hmm
      go_wp2_with fail
      refine HI.out.mono ?_
      rintro e w2 ⟨rfl, rfl⟩
      go_wp2
      go_ret
      exact ⟨ret_int HV2.out.symm, HX1.out.bel⟩
    | false =>
      have HV2 := Lib.hid (show n = (M : Int) by rw [← HN.out, HV.out, inRow_no hq, HM.out])
      have hm0 : ¬ 0 ≤ m := by simpa using hmm
      clear hq hm hmm
      go_wp2_with fail
      refine HI.out.mono ?_
      rintro e w2 ⟨rfl, rfl⟩
      go_wp2
      go_ret
      exact ⟨ret_int HV2.out.symm, HX1.out.bel⟩


set_option maxRecDepth 100000 in
set_option maxHeartbeats 1600000 in
theorem refPrefer10_is (w : World) (v1 v2 : Value) (x : Rec) (v s : ByteArray) (h : IsRec w v1 v2 x) (n : Int) (hn : prefR x v s = n) :
    Calls Tryz.prog 33 #[.agg #[v1, v2], .string v, .string s] w fun e w' => e = .returned (.int .i64 n) ∧ Below w.heap.size w w' := by
  obtain ⟨A1, L1, c1, A2, L2, c2, rfl, rfl, hL1, hL2, hc1, hm1, hc2, hm2⟩ := rec_box h
  have hx := Bxs.one w #[.slice A1 L1 c1, .slice A2 L2 c2] 25
  have HX := Lib.hid hx
  have HR := Lib.hid (h.below hx.bel (Nat.le_refl _))
  have HN := Lib.hid hn
  have HL := Lib.hid hL2
  have x1 := hx.get0 1 (v := .slice A2 L2 c2) rfl rfl
  clear h hn hL1 hL2 hx
  go_enter Tryz.func33, Tryz.ntmps33
  go_wp2
  go_loop [13] (fun i => ∃ k : Nat, k ≤ L2 ∧ i = .int .i64 k ∧ Hid ((x.prefs.take k).any (fun f => virtN f v) = false)) (fun i => L2 - (intOf i).toNat)
  case atStart => exact ⟨0, Nat.zero_le _, rfl, Lib.hid (by simp)⟩
  case round =>
    obtain ⟨k, hk, rfl, HA⟩ := hrel
    by_cases hlt : k < L2
    · have HKL := Lib.hid (show k < x.prefs.length by rw [← HL.out]; exact hlt)
      obtain ⟨bb, off, u, rfl, hbl, hs, hrw, hw, p0, p1, p2⟩ := pref_at HR.out.prefs hlt
      obtain ⟨B, M, d, rfl⟩ := hrw.sl
      have HF := Lib.hid hrw
      have HM := Lib.hid hrw.len
      have hcp := hrw.cap
      obtain ⟨f, hf⟩ : ∃ f, nth x.prefs k = f := ⟨_, rfl⟩
      rw [hf] at p0 p2 HF HM
      have HFF := Lib.hid hf
      obtain ⟨q, hq⟩ : ∃ q, virtN f v = q := ⟨_, rfl⟩
      have e1 : (f.virt.toList == v.toList) = q := hq
      have HQ := Lib.hid hq
      clear hs hw hbl hrw hf hq
      cases q with
      | false =>
        have HA2 := Lib.hid (show (x.prefs.take (k + 1)).any (fun f => virtN f v) = false by rw [any_snoc HKL.out, HA.out, HFF.out, HQ.out]; rfl)
        go_wp2
        go_round
        case rel => exact ⟨k + 1, by omega, by go_num, HA2⟩
        case measure => simp [intOf]; omega
      | true =>
        have hv : virtN (nth x.prefs k) v = true := by rw [HFF.out]; exact HQ.out
        have HV := Lib.hid (show n = inRow f.names s by rw [← HN.out, prefR_at (any_at HKL.out (p := fun f => virtN f v) hv) (idx_hit HKL.out HA.out (p := fun f => virtN f v) hv), HFF.out])
        clear hv
        go_wp2
        go_loop [32] (fun i => ∃ m : Nat, m ≤ M ∧ i = .int .i64 m ∧ Hid ((f.names.take m).any (txtIs s) = false)) (fun i => M - (intOf i).toNat)
        case atStart => exact ⟨0, Nat.zero_le _, rfl, Lib.hid (by simp)⟩
        case round =>
          obtain ⟨m, hm, rfl, HB⟩ := hrel
          by_cases hlm : m < M
          · have HML := Lib.hid (show m < f.names.length by rw [← HM.out]; exact hlm)
            obtain ⟨b2, off2, rfl, hb2, hz2, c0⟩ := str_at HF.out hlm
            obtain ⟨y, hy⟩ : ∃ y, nth f.names m = y := ⟨_, rfl⟩
            rw [hy] at c0
            have HY := Lib.hid hy
            obtain ⟨q, hq⟩ : ∃ q, txtIs s y = q := ⟨_, rfl⟩
            have HQ2 := Lib.hid hq
            have e2 : (y.toList == s.toList) = q := hq
            clear hy hb2 hz2 hq
            cases q with
            | true =>
              have hv : txtIs s (nth f.names m) = true := by rw [HY.out]; exact HQ2.out
              have HV2 := Lib.hid (show n = m by rw [HV.out, inRow_yes (any_at HML.out (p := txtIs s) hv), idx_hit HML.out HB.out (p := txtIs s) hv])
              clear hv
              go_wp2
              go_ret
              exact ⟨ret_int HV2.out.symm, HX.out.bel⟩
            | false =>
              have HB2 := Lib.hid (show (f.names.take (m + 1)).any (txtIs s) = false by rw [any_snoc HML.out, HB.out, HY.out, HQ2.out]; rfl)
              go_wp2
              go_round
              case rel => exact ⟨m + 1, by omega, by go_num, HB2⟩
              case measure => simp [intOf]; omega
          · obtain rfl : m = M := by omega
            have HV2 := Lib.hid (show n = (m : Int) by rw [HV.out, inRow_no (by have := HB.out; rwa [HM.out, List.take_length] at this), HM.out])
            go_wp2
            go_ret
            exact ⟨ret_int HV2.out.symm, HX.out.bel⟩
    · obtain rfl : k = L2 := by omega
      have HV := Lib.hid (show n = 0 by rw [← HN.out, prefR_no (by have := HA.out; rwa [HL.out, List.take_length] at this)])
      go_wp2
      go_ret
      exact ⟨ret_int HV.out.symm, HX.out.bel⟩
end Go.Proofs.YtaahdhpljlkfjaaGreat.Rc
