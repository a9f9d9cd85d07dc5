/- comparePart: how two parts stand to each other. -/
import Derived.Test.YtdijkekglaimfaaGreatDoorVerParts
namespace Go.Proofs.YtdijkekglaimfaaGreatDoor.Ver
open Go.RowKit

theorem cmpInt_any (x y : Int) (w : World) :
    Calls Tryz.prog 79 #[.int .i64 x, .int .i64 y] w fun e w' => e = .returned (.int .i64 (Lib.compareInt x y)) ∧ w = w' := by
  refine (Tryz.cmp_Compare_int x y w).mono ?_
  rintro e w' ⟨rfl, rfl⟩; exact ⟨rfl, rfl⟩
theorem cmpStr_any (a b : ByteArray) (w : World) :
    Calls Tryz.prog 80 #[.string a, .string b] w fun e w' => e = .returned (.int .i64 (Lib.compareBytes a.data.toList b.data.toList)) ∧ w = w' := by
  refine (Tryz.strings_Compare a b w).mono ?_
  rintro e w' ⟨rfl, rfl⟩; exact ⟨rfl, rfl⟩

set_option maxHeartbeats 400000 in
theorem rankOfPart_any (s : ByteArray) (w : World) (hs : s.size ≤ maxLen) :
    Calls Tryz.prog 78 #[.string s] w fun e w' => e = .returned (.int .i64 (rank s.data.toList)) ∧ w = w' := by
  cases he : s.data.toList.isEmpty with
  | true =>
    have hr : rank s.data.toList = 1 := by unfold rank; rw [he]; rfl
    have Hr := Lib.hid hr
    have e1 : s.toList = [] := by rw [Lib.toList_data]; exact List.isEmpty_iff.1 he
    have e2 : s.toList.isEmpty = true := by rw [Lib.toList_data]; exact he
    clear hr he
    go_enter Tryz.func78, Tryz.ntmps78
    go_wp2
    go_ret
    exact ⟨by rw [Hr.out]; rfl, rfl⟩
  | false =>
    have e2 : s.toList.isEmpty = false := by rw [Lib.toList_data]; exact he
    cases hw : word s.data.toList with
    | true =>
      have hr : rank s.data.toList = 0 := by unfold rank; rw [he, hw]; rfl
      have Hr := Lib.hid hr
      have Hw := Lib.hid hw
      clear hr he hw
      go_enter Tryz.func78, Tryz.ntmps78
      go_wp2_with fail
      refine (isWord_any s _ hs).mono ?_
      rintro e w' ⟨rfl, rfl⟩
      rw [Hw.out]
      go_wp2
      go_ret
      exact ⟨by rw [Hr.out]; rfl, rfl⟩
    | false =>
      have hr : rank s.data.toList = 2 := by unfold rank; rw [he, hw]; rfl
      have Hr := Lib.hid hr
      have Hw := Lib.hid hw
      clear hr he hw
      go_enter Tryz.func78, Tryz.ntmps78
      go_wp2_with fail
      refine (isWord_any s _ hs).mono ?_
      rintro e w' ⟨rfl, rfl⟩
      rw [Hw.out]
      go_wp2
      go_ret
      exact ⟨by rw [Hr.out]; rfl, rfl⟩

theorem rank_range (p : Bs) : rank p = 0 ∨ rank p = 1 ∨ rank p = 2 := by
  unfold rank; split
  · exact .inr (.inl rfl)
  · split
    · exact .inl rfl
    · exact .inr (.inr rfl)

set_option maxHeartbeats 800000 in
theorem comparePart_any (a b : ByteArray) (w : World) (ha : a.size ≤ maxLen) (hb : b.size ≤ maxLen) :
    Calls Tryz.prog 61 #[.string a, .string b] w fun e w' => e = .returned (.int .i64 (cmpPart a.data.toList b.data.toList)) ∧ w = w' := by
  obtain ⟨ra, hra⟩ : ∃ ra, rank a.data.toList = ra := ⟨_, rfl⟩
  obtain ⟨rb, hrb⟩ : ∃ rb, rank b.data.toList = rb := ⟨_, rfl⟩
  have Hra := Lib.hid hra
  have Hrb := Lib.hid hrb
  by_cases hne : ra = rb
  · subst hne
    have hz : Lib.compareInt ra ra = 0 := ci_eq.2 rfl
    have Hz := Lib.hid hz
    by_cases h2 : ra = 2
    · have g1 : (ra == 2) = true := by simpa using h2
      by_cases hl : a.size = b.size
      · have hc : cmpPart a.data.toList b.data.toList = Lib.compareBytes a.data.toList b.data.toList := cp_bytes (hra.trans hrb.symm) (by rw [size_toList, size_toList]; omega)
        have Hc := Lib.hid hc
        have g2 : ((a.size : Int) != (b.size : Int)) = false := by rw [hl]; simp
        clear hra hrb hz hc hl h2
        go_enter Tryz.func61, Tryz.ntmps61
        go_wp2_with fail
        refine (rankOfPart_any a _ ha).mono ?_
        rintro e w' ⟨rfl, rfl⟩
        rw [Hra.out]
        go_wp2_with fail
        refine (rankOfPart_any b _ hb).mono ?_
        rintro e w' ⟨rfl, rfl⟩
        rw [Hrb.out]
        go_wp2_with fail
        refine (cmpInt_any _ _ _).mono ?_
        rintro e w' ⟨rfl, rfl⟩
        rw [Hz.out]
        go_wp2_with fail
        refine (cmpStr_any _ _ _).mono ?_
        rintro e w' ⟨rfl, rfl⟩
        go_wp2
        go_ret
        exact ⟨by rw [Hc.out]; rfl, rfl⟩
      · have hc : cmpPart a.data.toList b.data.toList = Lib.compareInt a.size b.size := by
          rw [cp_len (hra.trans hrb.symm) ⟨hra.trans h2, by rw [size_toList, size_toList]; exact hl⟩, size_toList, size_toList]
        have Hc := Lib.hid hc
        have g2 : ((a.size : Int) != (b.size : Int)) = true := by rw [bne_iff_ne]; omega
        clear hra hrb hz hc hl h2
        go_enter Tryz.func61, Tryz.ntmps61
        go_wp2_with fail
        refine (rankOfPart_any a _ ha).mono ?_
        rintro e w' ⟨rfl, rfl⟩
        rw [Hra.out]
        go_wp2_with fail
        refine (rankOfPart_any b _ hb).mono ?_
        rintro e w' ⟨rfl, rfl⟩
        rw [Hrb.out]
        go_wp2_with fail
        refine (cmpInt_any _ _ _).mono ?_
        rintro e w' ⟨rfl, rfl⟩
        rw [Hz.out]
        go_wp2_with fail
        refine (cmpInt_any _ _ _).mono ?_
        rintro e w' ⟨rfl, rfl⟩
        go_wp2
        go_ret
        exact ⟨by rw [Hc.out]; rfl, rfl⟩
    · have g1 : (ra == 2) = false := by simpa using h2
      have hc : cmpPart a.data.toList b.data.toList = Lib.compareBytes a.data.toList b.data.toList := cp_bytes (hra.trans hrb.symm) (by rw [hra]; omega)
      have Hc := Lib.hid hc
      clear hra hrb hz hc h2
      go_enter Tryz.func61, Tryz.ntmps61
      go_wp2_with fail
      refine (rankOfPart_any a _ ha).mono ?_
      rintro e w' ⟨rfl, rfl⟩
      rw [Hra.out]
      go_wp2_with fail
      refine (rankOfPart_any b _ hb).mono ?_
      rintro e w' ⟨rfl, rfl⟩
      rw [Hrb.out]
      go_wp2_with fail
      refine (cmpInt_any _ _ _).mono ?_
      rintro e w' ⟨rfl, rfl⟩
      rw [Hz.out]
      go_wp2_with fail
      refine (cmpStr_any _ _ _).mono ?_
      rintro e w' ⟨rfl, rfl⟩
      go_wp2
      go_ret
      exact ⟨by rw [Hc.out]; rfl, rfl⟩
  · have hc : cmpPart a.data.toList b.data.toList = Lib.compareInt ra rb := by rw [cp_rank (by rw [hra, hrb]; exact hne), hra, hrb]
    obtain ⟨c, hcc⟩ : ∃ c, Lib.compareInt ra rb = c := ⟨_, rfl⟩
    have hc0 : (c != 0) = true := by rw [bne_iff_ne, ← hcc]; exact fun e => hne (ci_eq.1 e)
    rw [hcc] at hc
    have Hc := Lib.hid hc
    have Hcc := Lib.hid hcc
    clear hra hrb hc hne hcc
    go_enter Tryz.func61, Tryz.ntmps61
    go_wp2_with fail
    refine (rankOfPart_any a _ ha).mono ?_
    rintro e w' ⟨rfl, rfl⟩
    rw [Hra.out]
    go_wp2_with fail
    refine (rankOfPart_any b _ hb).mono ?_
    rintro e w' ⟨rfl, rfl⟩
    rw [Hrb.out]
    go_wp2_with fail
    refine (cmpInt_any _ _ _).mono ?_
    rintro e w' ⟨rfl, rfl⟩
    rw [Hcc.out]
    go_wp2
    go_ret
    exact ⟨by rw [Hc.out]; rfl, rfl⟩

set_option maxHeartbeats 400000 in
theorem rankOfText_any (s : ByteArray) (w : World) :
    Calls Tryz.prog 59 #[.string s] w fun e w' => e = .returned (.int .i64 (mayI s.data.toList)) ∧ Below w.heap.size w w' := by
  cases hm : may s.data.toList with
  | true =>
    have hi : mayI s.data.toList = 1 := by unfold mayI; rw [hm]; rfl
    have Hi := Lib.hid hi
    have Hm := Lib.hid hm
    clear hi hm
    go_enter Tryz.func59, Tryz.ntmps59
    go_wp2_with fail
    refine (may_any s _).mono ?_
    rintro e w' ⟨rfl, hb⟩
    rw [Hm.out]
    go_wp2
    go_ret
    exact ⟨by rw [Hi.out]; rfl, hb⟩
  | false =>
    have hi : mayI s.data.toList = 0 := by unfold mayI; rw [hm]; rfl
    have Hi := Lib.hid hi
    have Hm := Lib.hid hm
    clear hi hm
    go_enter Tryz.func59, Tryz.ntmps59
    go_wp2_with fail
    refine (may_any s _).mono ?_
    rintro e w' ⟨rfl, hb⟩
    rw [Hm.out]
    go_wp2
    go_ret
    exact ⟨by rw [Hi.out]; rfl, hb⟩

end Go.Proofs.YtdijkekglaimfaaGreatDoor.Ver
