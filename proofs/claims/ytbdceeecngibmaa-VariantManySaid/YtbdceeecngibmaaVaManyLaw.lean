/- VariantMany's walk. -/
import Derived.Test.YtbdceeecngibmaaVaManyMath
import Derived.Test.YtbdceeecngibmaaVaWish
import Derived.Test.YtbdceeecngibmaaVaAllLaw
namespace Go.Proofs.Ytbdceeecngibmaa.Va
open Go.RowKit

theorem meets_is (w : World) (v u : Value) (s wish : List Set1) (h : Sets w v s) (hw : Sets w u wish) (b : Bool) (hb : meetsB s wish = b) :
    Calls Try.prog 25 #[v, u] w fun e w' => e = .returned (.bool b) ∧ Below w.heap.size w w' := by subst hb; exact meets_any w v u s wish h hw

theorem countS_snoc {l : List ByteArray} {k : Nat} (hk : k < l.length) (p : ByteArray → Bool) : (l.take (k + 1)).countP p = (l.take k).countP p + (if p (nthS l k) then 1 else 0) := by
  rw [List.take_succ_eq_append_getElem hk, List.countP_append, nthS_lt hk]
  congr 1
  cases h : p l[k] <;> simp [h]
theorem countT_snoc {l : List Set1} {k : Nat} (hk : k < l.length) (p : Set1 → Bool) : (l.take (k + 1)).countP p = (l.take k).countP p + (if p (nthT l k) then 1 else 0) := by
  rw [List.take_succ_eq_append_getElem hk, List.countP_append, nthT_lt hk]
  congr 1
  cases h : p l[k] <;> simp [h]
theorem countG_snoc {l : List (List Set1)} {k : Nat} (hk : k < l.length) (p : List Set1 → Bool) : (l.take (k + 1)).countP p = (l.take k).countP p + (if p (nthG l k) then 1 else 0) := by
  rw [List.take_succ_eq_append_getElem hk, List.countP_append, nthG_lt hk]
  congr 1
  cases h : p l[k] <;> simp [h]
theorem allT_snoc {l : List Set1} {k : Nat} (hk : k < l.length) (p : Set1 → Bool) : (l.take (k + 1)).all p = ((l.take k).all p && p (nthT l k)) := by
  rw [List.take_succ_eq_append_getElem hk, List.all_append, nthT_lt hk]; simp

set_option maxRecDepth 100000 in
set_option maxHeartbeats 6400000 in
theorem variantMany_any (v u : Value) (l : List Var) (wish : List Set1) (w : World) (h : Vars w v l) (hs : Sets w u wish) :
    Calls Try.prog 7 #[v, u] w fun e w' => e = .returned (.bool true) ∧ Below w.heap.size w w' := by
  have HV := Lib.hid h
  have HS := Lib.hid hs
  have hsm := h.small
  have HSM := Lib.hid hsm
  obtain ⟨A, L, c, rfl, hL, h1, h2, h3⟩ := h.open'
  obtain ⟨As, Ls, cs, rfl, hLs, hs1, hs2, hs3⟩ := hs.open'
  unfold maxLen at h2 hs2
  have HL := Lib.hid hL
  have HLs := Lib.hid hLs
  have H3 := Lib.hid h3
  have HS3 := Lib.hid hs3
  clear h hs hL hLs h3 hs3 hsm
  go_enter Try.func7, Try.ntmps7
  go_wp2_with fail
  refine (greatV_any _ _ l HV.out).mono ?_
  rintro e w' ⟨b0, rfl, hb0, rfl⟩
  clear hb0
  cases b0 with
  | true =>
    go_wp2_with fail
    refine (fixed_any _).mono ?_
    rintro e w1 ⟨rfl, hb⟩
    go_wp2
    go_ret
    exact ⟨rfl, hb⟩
  | false =>
    go_wp2_with fail
    refine (greatS_any _ _ wish HS.out).mono ?_
    rintro e w' ⟨b1, rfl, hb1, rfl⟩
    cases b1 with
    | true =>
      clear hb1
      go_wp2_with fail
      refine (fixed_any _).mono ?_
      rintro e w1 ⟨rfl, hb⟩
      go_wp2
      go_ret
      exact ⟨rfl, hb⟩
    | false =>
      have hLs50 : Ls ≤ 50 := by have := hb1 rfl; have := HLs.out; omega
      clear hb1
      cases hm : mayB l with
      | false =>
        have HM := Lib.hid hm
        clear hm
        go_wp2_with fail
        refine (refMay_is _ _ l HV.out false HM.out).mono ?_
        rintro e w1 ⟨rfl, hb⟩
        have HB1 := Lib.hid hb
        clear hb
        go_wp2_with fail
        refine (fixed_any _).mono ?_
        rintro e w2 ⟨rfl, hb⟩
        have HB2 := Lib.hid (HB1.out.trans (hb.mono HB1.out.size))
        clear hb
        go_wp2
        go_ret
        exact ⟨rfl, HB2.out⟩
      | true =>
        have HM := Lib.hid hm
        have hL4 : L ≤ 4 := by rw [HL.out]; exact mayB_len hm
        have HVV := Lib.hid (fun k hk => mayB_vals hm (k := k) hk)
        have HMANY := Lib.hid (many hm wish)
        have HPC := Lib.hid (prodC_le wish hm)
        have HSL := Lib.hid (sum_le wish (l := l))
        have HLEN := Lib.hid (foldR_rows hm l.length (Nat.le_refl _))
        clear hm
        go_wp2_with fail
        refine (refMay_is _ _ l HV.out true HM.out).mono ?_
        rintro e w1 ⟨rfl, hb⟩
        have HB1 := Lib.hid hb
        clear hb
        go_wp2_with fail
        refine (refWish_any _ _ wish (HS.out.below HB1.out (Nat.le_refl _))).mono ?_
        rintro e w2 ⟨b2, rfl, hb⟩
        have HB2 := Lib.hid (HB1.out.trans (hb.mono HB1.out.size))
        clear hb
        cases b2 with
        | false =>
          go_wp2_with fail
          refine (fixed_any _).mono ?_
          rintro e w3 ⟨rfl, hb⟩
          have HB3 := Lib.hid (HB2.out.trans (hb.mono HB2.out.size))
          clear hb
          go_wp2
          go_ret
          exact ⟨rfl, HB3.out⟩
        | true =>
          go_wp2
          go_loopw [5, 6, 39] (fun p t i wx => ∃ k q m : Nat, k ≤ L ∧ i = .int .i64 k ∧ p = .int .i64 q ∧ t = .int .i64 m ∧ q ≤ 256 ∧ m ≤ 200 ∧ q = prodC wish (l.take k) ∧ m = sumN wish (l.take k) ∧ Below w.heap.size w wx) (fun _ _ i _ => L - (intOf i).toNat)
          case atStart => exact ⟨0, 1, 0, Nat.zero_le _, rfl, rfl, rfl, by omega, by omega, by simp [prodC], by simp [sumN], HB2.out⟩
          case round =>
            clear HB1 HB2
            obtain ⟨k, q, m, hk, rfl, rfl, rfl, hq, hm, hqe, hme, hbw⟩ := hrel
            have HQ := Lib.hid hqe
            have HMM := Lib.hid hme
            have HB := Lib.hid hbw
            clear hqe hme
            by_cases hlt : k < L
            · have hkl : k < l.length := by rw [← HL.out]; exact hlt
              obtain ⟨b, off, rfl, hb, hc⟩ := H3.out (by omega)
              obtain ⟨g1, ⟨u, g2, g3⟩, g4⟩ := hc k hlt
              obtain ⟨A1, L1, c1, rfl, hL1, g5, g6, g7⟩ := g3.open'
              have G7 := Lib.hid g7
              have HL1 := Lib.hid hL1
              have q1 := (hbw.cell (p := ⟨b, off + k * 2, none⟩) hb).trans g1
              have q2 := (hbw.cell (p := ⟨b, off + k * 2 + 1, none⟩) hb).trans g2
              have hL14 : L1 ≤ 4 := by rw [hL1]; exact (HVV.out k hkl).2
              have HPN := Lib.hid (prodC_snoc wish hkl)
              have HPL := Lib.hid (Nat.le_trans (HPC.out (k + 1) (by omega)) (pow_le (by omega)))
              have HSN := Lib.hid (sumN_snoc wish hkl)
              have hmb : m ≤ k * 50 := by
                have h1 := HSL.out k (by omega)
                rw [HMM.out]
                exact Nat.le_trans h1 (Nat.mul_le_mul_left _ (by rw [← HLs.out]; exact hLs50))
              have hbwz := hbw.size
              clear hc g1 g2 g3 g7 hL1 hkl hbw
              generalize hw1 : wr.alloc (.cells #[.string (nthV l k).1, .slice A1 L1 c1] 35) = w1
              have HW1 := Lib.hid hw1
              have hnew : w1.heap[wr.heap.size]? = some (.cells #[.string (nthV l k).1, .slice A1 L1 c1] 35 (0, 0)) := by rw [← hw1]; exact heap_alloc_new wr _
              have hbel1 : Below wr.heap.size wr w1 := by rw [← hw1]; exact (Below.refl _ _).alloc (Nat.le_refl _) _
              have hwr1 : wr.heap.size < w1.heap.size := by rw [← hw1]; simp
              have HNEW := Lib.hid hnew
              have HBW1 := Lib.hid (HB.out.trans (hbel1.mono hbwz))
              clear hnew hbel1 hw1
              go_wp2
              rw [HW1.out]
              clear q1 q2
              go_loopw [9, 46] (fun t i wx => ∃ j n : Nat, j ≤ L1 ∧ i = .int .i64 j ∧ t = .int .i64 n ∧ n ≤ j ∧ Hid (n = ((nthV l k).2.take j).countP (okval wish (nthV l k).1)) ∧ Below w1.heap.size w1 wx) (fun _ i _ => L1 - (intOf i).toNat)
              case atStart => exact ⟨0, 0, Nat.zero_le _, rfl, rfl, Nat.le_refl _, Lib.hid (by simp), Below.refl _ _⟩
              case round =>
                obtain ⟨j, n, hj, rfl, rfl, hn, hne, hbx⟩ := hrel
                have HBX := Lib.hid hbx
                by_cases hjl : j < L1
                · have hjl2 : j < (nthV l k).2.length := by rw [← HL1.out]; exact hjl
                  obtain ⟨b1, o1, rfl, hb1, hc1⟩ := G7.out (by omega)
                  have q3 := (hbx.cell (p := ⟨b1, o1 + j, none⟩) (by simp; omega)).trans ((HBW1.out.cell (p := ⟨b1, o1 + j, none⟩) hb1).trans (hc1 j hjl).1)
                  have HCS := Lib.hid (countS_snoc hjl2 (okval wish (nthV l k).1))
                  clear hc1 hbx
                  generalize hy : nthS (nthV l k).2 j = y at q3 HCS
                  clear hy
                  go_wp2
                  clear q3
                  go_loopw [12, 52] (fun f i wx => ∃ (i0 : Nat) (x : Bool), i0 ≤ Ls ∧ i = .int .i64 i0 ∧ f = .bool x ∧ Hid ((wish.take i0).all (okx (nthV l k).1 y) = x) ∧ Below w1.heap.size w1 wx) (fun _ i _ => Ls - (intOf i).toNat)
                  case atStart => exact ⟨0, true, Nat.zero_le _, rfl, rfl, Lib.hid (by simp), HBX.out⟩
                  case round =>
                    clear HBX
                    obtain ⟨i0, x, hi0, rfl, rfl, hx, hbx⟩ := hrel
                    have HBX := Lib.hid hbx
                    by_cases hil : i0 < Ls
                    · have hil2 : i0 < wish.length := by rw [← HLs.out]; exact hil
                      obtain ⟨bs, os, rfl, hbs, hcs⟩ := HS3.out (by omega)
                      have hT := HBW1.out.trans (hbx.mono HBW1.out.size)
                      have c0 := (hT.cell (p := ⟨bs, os + i0 * 2, none⟩) hbs).trans (hcs i0 hil).1
                      have c1 := (hT.cell (p := ⟨bs, os + i0 * 2 + 1, none⟩) hbs).trans (hcs i0 hil).2.1
                      have hv0 := cells_get (heap_below HNEW.out hbx) 0 (v := .string (nthV l k).1) rfl
                      have hv1 := cell_alloc_l (.cells #[.string (nthT wish i0).1, .string (nthT wish i0).2] 37) hv0
                      have HAS := Lib.hid (allT_snoc hil2 (okx (nthV l k).1 y))
                      clear hcs hil2 hbx hT hv0
                      cases x with
                      | false =>
                        have hn' : Hid ((wish.take (i0 + 1)).all (okx (nthV l k).1 y) = false) := Lib.hid (by rw [HAS.out, hx.out]; rfl)
                        go_wp2
                        go_roundw
                        case rel => exact ⟨i0 + 1, false, by omega, by go_num, rfl, hn', HBX.out.alloc HBX.out.size _⟩
                        case measure => simp [intOf]; omega
                      | true =>
                        cases he : eqS (nthT wish i0).1 (nthV l k).1 with
                        | false =>
                          have hn' : Hid ((wish.take (i0 + 1)).all (okx (nthV l k).1 y) = true) := Lib.hid (by rw [HAS.out, hx.out]; unfold okx; rw [he]; rfl)
                          have e1 : ((nthT wish i0).1.toList == (nthV l k).1.toList) = false := he
                          have e2 : ((nthT wish i0).1.toList != (nthV l k).1.toList) = true := by rw [bne]; rw [show ((nthT wish i0).1.toList == (nthV l k).1.toList) = false from he]; rfl
                          clear he
                          go_wp2
                          go_roundw
                          case rel => exact ⟨i0 + 1, true, by omega, by go_num, rfl, hn', HBX.out.alloc HBX.out.size _⟩
                          case measure => simp [intOf]; omega
                        | true =>
                          cases hz : eqS (nthT wish i0).2 y with
                          | true =>
                            have hn' : Hid ((wish.take (i0 + 1)).all (okx (nthV l k).1 y) = true) := Lib.hid (by rw [HAS.out, hx.out]; unfold okx; rw [he, hz]; rfl)
                            have e1 : ((nthT wish i0).1.toList == (nthV l k).1.toList) = true := he
                            have e2 : ((nthT wish i0).1.toList != (nthV l k).1.toList) = false := by rw [bne]; rw [show ((nthT wish i0).1.toList == (nthV l k).1.toList) = true from he]; rfl
                            have e3 : ((nthT wish i0).2.toList == y.toList) = true := hz
                            clear he hz
                            go_wp2
                            go_roundw
                            case rel => exact ⟨i0 + 1, true, by omega, by go_num, rfl, hn', HBX.out.alloc HBX.out.size _⟩
                            case measure => simp [intOf]; omega
                          | false =>
                            have hn' : Hid ((wish.take (i0 + 1)).all (okx (nthV l k).1 y) = false) := Lib.hid (by rw [HAS.out, hx.out]; unfold okx; rw [he, hz]; rfl)
                            have e1 : ((nthT wish i0).1.toList == (nthV l k).1.toList) = true := he
                            have e2 : ((nthT wish i0).1.toList != (nthV l k).1.toList) = false := by rw [bne]; rw [show ((nthT wish i0).1.toList == (nthV l k).1.toList) = true from he]; rfl
                            have e3 : ((nthT wish i0).2.toList == y.toList) = false := hz
                            clear he hz
                            go_wp2
                            go_roundw
                            case rel => exact ⟨i0 + 1, false, by omega, by go_num, rfl, hn', HBX.out.alloc HBX.out.size _⟩
                            case measure => simp [intOf]; omega
                    · obtain rfl : i0 = Ls := by omega
                      have HX := Lib.hid (show okval wish (nthV l k).1 y = x by
                        have := hx.out
                        rwa [HLs.out, List.take_length] at this)
                      clear hbx
                      cases x with
                      | true =>
                        have hn' : Hid (n + 1 = ((nthV l k).2.take (j + 1)).countP (okval wish (nthV l k).1)) := Lib.hid (by rw [HCS.out, ← hne.out, HX.out]; rfl)
                        go_wp2
                        go_roundw
                        case rel => exact ⟨j + 1, n + 1, by omega, by go_num, by go_num, by omega, hn', HBX.out⟩
                        case measure => simp [intOf]; omega
                      | false =>
                        have hn' : Hid (n = ((nthV l k).2.take (j + 1)).countP (okval wish (nthV l k).1)) := Lib.hid (by rw [HCS.out, ← hne.out, HX.out]; rfl)
                        go_wp2
                        go_roundw
                        case rel => exact ⟨j + 1, n, by omega, by go_num, rfl, by omega, hn', HBX.out⟩
                        case measure => simp [intOf]; omega
                · obtain rfl : j = L1 := by omega
                  have hnc : n = cntV wish (nthV l k) := by
                    have := hne.out
                    rw [HL1.out, List.take_length] at this
                    exact this
                  have hqn : q * n = prodC wish (l.take (k + 1)) := by rw [HPN.out, ← HQ.out, hnc]
                  have HQN := Lib.hid hqn
                  have hqb : q * n ≤ 256 := by rw [hqn]; exact HPL.out
                  have e0 : (0 : Int) ≤ (q : Int) * (n : Int) := by exact_mod_cast Nat.zero_le (q * n)
                  have e1 : (q : Int) * (n : Int) ≤ 256 := by exact_mod_cast hqb
                  clear hnc hqn hbx
                  go_wp2
                  go_loopw [6, 80] (fun t i wx => ∃ i0 a : Nat, i0 ≤ Ls ∧ i = .int .i64 i0 ∧ t = .int .i64 a ∧ a ≤ m + i0 ∧ Hid (a = m + (wish.take i0).countP (fun x => eqS x.1 (nthV l k).1)) ∧ Below w1.heap.size w1 wx) (fun _ i _ => Ls - (intOf i).toNat)
                  case atStart => exact ⟨0, m, Nat.zero_le _, rfl, rfl, by omega, Lib.hid (by simp), HBX.out⟩
                  case round =>
                    clear HBX
                    obtain ⟨i0, a, hi0, rfl, rfl, ha, hae, hbx⟩ := hrel
                    have HBX := Lib.hid hbx
                    by_cases hil : i0 < Ls
                    · have hil2 : i0 < wish.length := by rw [← HLs.out]; exact hil
                      obtain ⟨bs, os, rfl, hbs, hcs⟩ := HS3.out (by omega)
                      have hT := HBW1.out.trans (hbx.mono HBW1.out.size)
                      have c0 := (hT.cell (p := ⟨bs, os + i0 * 2, none⟩) hbs).trans (hcs i0 hil).1
                      have c1 := (hT.cell (p := ⟨bs, os + i0 * 2 + 1, none⟩) hbs).trans (hcs i0 hil).2.1
                      have hv0 := cells_get (heap_below HNEW.out hbx) 0 (v := .string (nthV l k).1) rfl
                      have hv1 := cell_alloc_l (.cells #[.string (nthT wish i0).1, .string (nthT wish i0).2] 37) hv0
                      have HCT := Lib.hid (countT_snoc hil2 (fun x => eqS x.1 (nthV l k).1))
                      clear hcs hil2 hbx hT hv0
                      cases he : eqS (nthT wish i0).1 (nthV l k).1 with
                      | false =>
                        have hn' : Hid (a = m + (wish.take (i0 + 1)).countP (fun x => eqS x.1 (nthV l k).1)) := Lib.hid (by rw [HCT.out, he, hae.out]; rfl)
                        have e2 : ((nthT wish i0).1.toList == (nthV l k).1.toList) = false := he
                        clear he
                        go_wp2
                        go_roundw
                        case rel => exact ⟨i0 + 1, a, by omega, by go_num, rfl, by omega, hn', HBX.out.alloc HBX.out.size _⟩
                        case measure => simp [intOf]; omega
                      | true =>
                        have hn' : Hid (a + 1 = m + (wish.take (i0 + 1)).countP (fun x => eqS x.1 (nthV l k).1)) := Lib.hid (by rw [HCT.out, he, hae.out]; rfl)
                        have e2 : ((nthT wish i0).1.toList == (nthV l k).1.toList) = true := he
                        clear he
                        go_wp2
                        go_roundw
                        case rel => exact ⟨i0 + 1, a + 1, by omega, by go_num, by go_num, by omega, hn', HBX.out.alloc HBX.out.size _⟩
                        case measure => simp [intOf]; omega
                    · obtain rfl : i0 = Ls := by omega
                      have hae2 : a = sumN wish (l.take (k + 1)) := by
                        have := hae.out
                        rw [HLs.out, List.take_length] at this
                        rw [HSN.out, ← HMM.out]; exact this
                      have HAE := Lib.hid hae2
                      clear hae2 hbx
                      go_wp2
                      go_roundw
                      case rel => exact ⟨k + 1, q * n, a, by omega, by go_num, by rw [Int.natCast_mul], rfl, hqb, by omega, HQN.out, HAE.out, HBW1.out.trans (HBX.out.mono HBW1.out.size)⟩
                      case measure => simp [intOf]; omega
            · obtain rfl : k = L := by omega
              have hme : m = sumN wish l := by have := HMM.out; rwa [HL.out, List.take_length] at this
              have hqe : q = prodC wish l := by have := HQ.out; rwa [HL.out, List.take_length] at this
              clear hbw
              have HALL := Lib.hid (show (allB l).length ≤ 256 by
                unfold allB
                rw [if_pos HM.out]
                have := HLEN.out.2
                rw [List.take_length] at this
                exact Nat.le_trans this (pow_le (by rw [← HL.out]; exact hL4)))
              have HV1 := Lib.hid (HV.out.below HB.out (Nat.le_refl _))
              by_cases hml : m < Ls
              · have hml' : (m : Int) < (Ls : Int) := by omega
                have HG := Lib.hid (show (allB l).countP (fun s => meetsB s wish) = 0 by
                  rw [HMANY.out]
                  rw [if_pos (by rw [← HLs.out, ← hme]; exact hml)])
                clear hme hqe
                go_wp2_with fail
                refine (all_any _ _ l HV1.out).mono ?_
                rintro e w3 ⟨T, n, cp, us, rfl, hn, hown, hb3⟩
                have HN := Lib.hid hn
                have HO := Lib.hid (hown.base (base' := w.heap.size) HB.out.size)
                have HB3 := Lib.hid (HB.out.trans (hb3.mono HB.out.size))
                have hn256 : n ≤ 256 := by rw [hn]; exact HALL.out
                clear hn hown hb3
                go_wp2
                go_loopw [17, 100] (fun t i wx => ∃ i0 a : Nat, i0 ≤ n ∧ i = .int .i64 i0 ∧ t = .int .i64 a ∧ a ≤ i0 ∧ Hid (a = ((allB l).take i0).countP (fun s => meetsB s wish)) ∧ OwnR wx w.heap.size (.slice T n cp) us (allB l) ∧ Below w.heap.size w wx) (fun _ i _ => n - (intOf i).toNat)
                case atStart => exact ⟨0, 0, Nat.zero_le _, rfl, rfl, Nat.le_refl _, Lib.hid (by simp), HO.out, HB3.out⟩
                case round =>
                  clear HO HB3
                  obtain ⟨i0, a, hi0, rfl, rfl, ha, hae, hown, hbx⟩ := hrel
                  have HO := Lib.hid hown
                  have HBX := Lib.hid hbx
                  by_cases hil : i0 < n
                  · have hil2 : i0 < (allB l).length := by rw [← HN.out]; exact hil
                    have HCG := Lib.hid (countG_snoc hil2 (fun s => meetsB s wish))
                    obtain ⟨bR, u, rfl, hu, hut⟩ := hown.at hil
                    obtain ⟨Au, Lu, cu, rfl⟩ : ∃ A L c, u = .slice A L c := by
                      obtain ⟨A, c, e⟩ := hut.slice
                      exact ⟨_, _, _, e⟩
                    have HSET := Lib.hid (hut.sets (small_all HSM.out _ (nthG_mem hil2)))
                    obtain ⟨z, hz⟩ : ∃ z, meetsB (nthG (allB l) i0) wish = z := ⟨_, rfl⟩
                    have HZ := Lib.hid hz
                    clear hown hut hil2 hz
                    go_wp2_with fail
                    refine (meets_is _ _ _ _ wish HSET.out (HS.out.below hbx (Nat.le_refl _)) z HZ.out).mono ?_
                    rintro e w5 ⟨rfl, hb5⟩
                    have HO5 := Lib.hid (HO.out.below hb5)
                    have HB5 := Lib.hid (HBX.out.trans (hb5.mono HBX.out.size))
                    clear hb5 hbx hu
                    cases z with
                    | true =>
                      have hn' : Hid (a + 1 = ((allB l).take (i0 + 1)).countP (fun s => meetsB s wish)) := Lib.hid (by rw [HCG.out, HZ.out, hae.out]; rfl)
                      go_wp2
                      go_roundw
                      case rel => exact ⟨i0 + 1, a + 1, by omega, by go_num, by go_num, by omega, hn', HO5.out, HB5.out⟩
                      case measure => simp [intOf]; omega
                    | false =>
                      have hn' : Hid (a = ((allB l).take (i0 + 1)).countP (fun s => meetsB s wish)) := Lib.hid (by rw [HCG.out, HZ.out, hae.out]; rfl)
                      go_wp2
                      go_roundw
                      case rel => exact ⟨i0 + 1, a, by omega, by go_num, rfl, by omega, hn', HO5.out, HB5.out⟩
                      case measure => simp [intOf]; omega
                  · obtain rfl : i0 = n := by omega
                    have hfin : a = 0 := by
                      have := hae.out
                      rw [HN.out, List.take_length, HG.out] at this
                      exact this
                    subst hfin
                    have e1 : ((0 : Int) == 0) = true := by simp
                    clear hbx hown
                    go_wp2_with fail
                    refine (fixed_any _).mono ?_
                    rintro e w6 ⟨rfl, hb6⟩
                    have HB6 := Lib.hid (HBX.out.trans (hb6.mono HBX.out.size))
                    clear hb6
                    go_wp2
                    go_ret
                    exact ⟨rfl, HB6.out⟩
              · have hml' : ¬ (m : Int) < (Ls : Int) := by omega
                have HG := Lib.hid (show (allB l).countP (fun s => meetsB s wish) = q by
                  rw [HMANY.out]
                  rw [if_neg (by rw [← HLs.out, ← hme]; exact hml)]; exact hqe.symm)
                clear hme hqe
                go_wp2_with fail
                refine (all_any _ _ l HV1.out).mono ?_
                rintro e w3 ⟨T, n, cp, us, rfl, hn, hown, hb3⟩
                have HN := Lib.hid hn
                have HO := Lib.hid (hown.base (base' := w.heap.size) HB.out.size)
                have HB3 := Lib.hid (HB.out.trans (hb3.mono HB.out.size))
                have hn256 : n ≤ 256 := by rw [hn]; exact HALL.out
                clear hn hown hb3
                go_wp2
                go_loopw [17, 100] (fun t i wx => ∃ i0 a : Nat, i0 ≤ n ∧ i = .int .i64 i0 ∧ t = .int .i64 a ∧ a ≤ i0 ∧ Hid (a = ((allB l).take i0).countP (fun s => meetsB s wish)) ∧ OwnR wx w.heap.size (.slice T n cp) us (allB l) ∧ Below w.heap.size w wx) (fun _ i _ => n - (intOf i).toNat)
                case atStart => exact ⟨0, 0, Nat.zero_le _, rfl, rfl, Nat.le_refl _, Lib.hid (by simp), HO.out, HB3.out⟩
                case round =>
                  clear HO HB3
                  obtain ⟨i0, a, hi0, rfl, rfl, ha, hae, hown, hbx⟩ := hrel
                  have HO := Lib.hid hown
                  have HBX := Lib.hid hbx
                  by_cases hil : i0 < n
                  · have hil2 : i0 < (allB l).length := by rw [← HN.out]; exact hil
                    have HCG := Lib.hid (countG_snoc hil2 (fun s => meetsB s wish))
                    obtain ⟨bR, u, rfl, hu, hut⟩ := hown.at hil
                    obtain ⟨Au, Lu, cu, rfl⟩ : ∃ A L c, u = .slice A L c := by
                      obtain ⟨A, c, e⟩ := hut.slice
                      exact ⟨_, _, _, e⟩
                    have HSET := Lib.hid (hut.sets (small_all HSM.out _ (nthG_mem hil2)))
                    obtain ⟨z, hz⟩ : ∃ z, meetsB (nthG (allB l) i0) wish = z := ⟨_, rfl⟩
                    have HZ := Lib.hid hz
                    clear hown hut hil2 hz
                    go_wp2_with fail
                    refine (meets_is _ _ _ _ wish HSET.out (HS.out.below hbx (Nat.le_refl _)) z HZ.out).mono ?_
                    rintro e w5 ⟨rfl, hb5⟩
                    have HO5 := Lib.hid (HO.out.below hb5)
                    have HB5 := Lib.hid (HBX.out.trans (hb5.mono HBX.out.size))
                    clear hb5 hbx hu
                    cases z with
                    | true =>
                      have hn' : Hid (a + 1 = ((allB l).take (i0 + 1)).countP (fun s => meetsB s wish)) := Lib.hid (by rw [HCG.out, HZ.out, hae.out]; rfl)
                      go_wp2
                      go_roundw
                      case rel => exact ⟨i0 + 1, a + 1, by omega, by go_num, by go_num, by omega, hn', HO5.out, HB5.out⟩
                      case measure => simp [intOf]; omega
                    | false =>
                      have hn' : Hid (a = ((allB l).take (i0 + 1)).countP (fun s => meetsB s wish)) := Lib.hid (by rw [HCG.out, HZ.out, hae.out]; rfl)
                      go_wp2
                      go_roundw
                      case rel => exact ⟨i0 + 1, a, by omega, by go_num, rfl, by omega, hn', HO5.out, HB5.out⟩
                      case measure => simp [intOf]; omega
                  · obtain rfl : i0 = n := by omega
                    have hfin : a = q := by
                      have := hae.out
                      rw [HN.out, List.take_length, HG.out] at this
                      exact this
                    subst hfin
                    have e1 : ((a : Int) == (a : Int)) = true := by simp
                    clear hbx hown
                    go_wp2_with fail
                    refine (fixed_any _).mono ?_
                    rintro e w6 ⟨rfl, hb6⟩
                    have HB6 := Lib.hid (HBX.out.trans (hb6.mono HBX.out.size))
                    clear hb6
                    go_wp2
                    go_ret
                    exact ⟨rfl, HB6.out⟩

theorem variantMany_w (A : Option Addr) (len cap : Nat) (l : List Var) (A' : Option Addr) (len' cap' : Nat) (s : List Set1) (w : World) (h : VarsP w A len cap l) (hs : SetsP w A' len' cap' s) :
    Calls Try.prog 7 #[.slice A len cap, .slice A' len' cap'] w fun e w' => e = .returned (.bool true) ∧ Below w.heap.size w w' := variantMany_any _ _ l s w h hs

end Go.Proofs.Ytbdceeecngibmaa.Va
