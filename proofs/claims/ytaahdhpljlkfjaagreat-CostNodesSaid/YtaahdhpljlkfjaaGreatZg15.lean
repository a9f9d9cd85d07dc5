/- Walks over texts: words and numbers (package version). -/
import Derived.Test.YtaahdhpljlkfjaaGreatRows
import Derived.Test.YtaahdhpljlkfjaaGreatZg14
import Derived.Test.YtaahdhpljlkfjaaGreatZg13
import Derived.Test.YtaahdhpljlkfjaaGreatZg01
import Derived.Lib.Strings
import Derived.Lib.CutLaws
import Derived.RegionTactic
import Derived.ChangeAlike
import Derived.RangeFuncNested
import Derived.RangeFuncBound
import Derived.RangeFuncCalls
import Derived.RangeFuncLeaves
import Derived.Shelf.Abstract
import Derived.Shelf.RegionOpen
import Derived.OwnWalkIn
import Derived.TacticsInMore
import Derived.LoopNIn
import Derived.LoopIn
namespace Go.Proofs.YtaahdhpljlkfjaaGreat.Ver
open Go.RowKit

theorem get_toList (s : ByteArray) (k : Nat) (h : k < s.size) : s.data.toList[k]? = some s[k] := by
  rw [Array.getElem?_toList, Array.getElem?_eq_getElem (by simpa using h)]; rfl
theorem take_snoc (s : ByteArray) (k : Nat) (h : k < s.size) : s.data.toList.take (k + 1) = s.data.toList.take k ++ [s[k]] := by
  rw [List.take_succ_eq_append_getElem (by simpa using h)]; rfl
theorem mem_toList (s : ByteArray) (k : Nat) (h : k < s.size) : s[k] ∈ s.data.toList := List.mem_of_getElem? (get_toList s k h)
theorem all_false {p : UInt8 → Bool} {s : ByteArray} {k : Nat} (h : k < s.size) (hp : p s[k] = false) : s.data.toList.all p = false :=
  List.all_eq_false.2 ⟨_, mem_toList s k h, by simp [hp]⟩
theorem size_toList (s : ByteArray) : s.data.toList.length = s.size := by simp
set_option maxHeartbeats 400000 in
theorem isWord_any (s : ByteArray) (w : World) (hs : s.size ≤ maxLen) :
    Calls Tryz.prog 91 #[.string s] w fun e w' => e = .returned (.bool (word s.data.toList)) ∧ w = w' := by
  unfold maxLen at hs
  go_enter Tryz.func91, Tryz.ntmps91
  go_wp2
  go_loop [6] (fun i => ∃ k : Nat, k ≤ s.size ∧ i = .int .i64 k ∧ Hid ((s.data.toList.take k).all letB = true)) (fun i => s.size - (intOf i).toNat)
  case atStart => exact ⟨0, Nat.zero_le _, rfl, Lib.hid (by simp)⟩
  case round =>
    obtain ⟨k, hk, rfl, hall⟩ := hrel
    by_cases hlt : k < s.size
    · by_cases h1 : (s[k].toNat : Int) < 97
      · have hf : word s.data.toList = false := by
          unfold word; rw [all_false hlt (by simp [letB]; omega)]; rfl
        have Hf := Lib.hid hf
        clear hf
        go_wp2
        go_ret
        exact ⟨by rw [Hf.out]; rfl, rfl⟩
      · by_cases h2 : 122 < (s[k].toNat : Int)
        · have hf : word s.data.toList = false := by
            unfold word; rw [all_false hlt (by simp [letB]; omega)]; rfl
          have Hf := Lib.hid hf
          clear hf
          go_wp2
          go_ret
          exact ⟨by rw [Hf.out]; rfl, rfl⟩
        · have hn : Hid ((s.data.toList.take (k + 1)).all letB = true) := Lib.hid (by
            rw [take_snoc s k hlt, List.all_append, hall.out]; simp [letB]; omega)
          go_wp2
          go_round
          case rel => exact ⟨k + 1, by omega, by go_num, hn⟩
          case measure => simp [intOf]; omega
    · obtain rfl : k = s.size := by omega
      have hr : word s.data.toList = !s.data.toList.isEmpty := by
        have := hall.out
        rw [List.take_of_length_le (by simp)] at this
        unfold word; rw [this]; rfl
      have Hr := Lib.hid hr
      clear hr
      go_wp2
      go_ret
      refine ⟨?_, rfl⟩
      rw [Hr.out, ← Lib.toList_data]
      rfl

theorem number_of {l : Bs} (h : l.all digB = true) : number l = ((l == [48]) || (!l.isEmpty && decide (l.length ≤ 9) && !(l.head? == some 48))) := by
  unfold number digits
  rw [h]
  by_cases h0 : l = [48]
  · subst h0; decide
  · have : (l == [48]) = false := by simpa using h0
    rw [this]; simp
theorem digits_empty_all {s : ByteArray} {k : Nat} (h : k < s.size) (hp : digB s[k] = false) : number s.data.toList = false := by
  unfold number digits; rw [all_false h hp]; rfl

set_option maxHeartbeats 800000 in
theorem isNumber_any (s : ByteArray) (w : World) (hs : s.size ≤ maxLen) :
    Calls Tryz.prog 92 #[.string s] w fun e w' => e = .returned (.bool (number s.data.toList)) ∧ w = w' := by
  unfold maxLen at hs
  go_enter Tryz.func92, Tryz.ntmps92
  go_wp2
  go_loop [6] (fun i => ∃ k : Nat, k ≤ s.size ∧ i = .int .i64 k ∧ Hid ((s.data.toList.take k).all digB = true)) (fun i => s.size - (intOf i).toNat)
  case atStart => exact ⟨0, Nat.zero_le _, rfl, Lib.hid (by simp)⟩
  case round =>
    obtain ⟨k, hk, rfl, hall⟩ := hrel
    by_cases hlt : k < s.size
    · by_cases h1 : (s[k].toNat : Int) < 48
      · have Hf := Lib.hid (digits_empty_all hlt (by simp [digB]; omega))
        go_wp2
        go_ret
        exact ⟨by rw [Hf.out]; rfl, rfl⟩
      · by_cases h2 : 57 < (s[k].toNat : Int)
        · have Hf := Lib.hid (digits_empty_all hlt (by simp [digB]; omega))
          go_wp2
          go_ret
          exact ⟨by rw [Hf.out]; rfl, rfl⟩
        · have hn : Hid ((s.data.toList.take (k + 1)).all digB = true) := Lib.hid (by
            rw [take_snoc s k hlt, List.all_append, hall.out]; simp [digB]; omega)
          go_wp2
          go_round
          case rel => exact ⟨k + 1, by omega, by go_num, hn⟩
          case measure => simp [intOf]; omega
    · obtain rfl : k = s.size := by omega
      have hr := number_of (l := s.data.toList) (by have := hall.out; rw [List.take_of_length_le (by simp)] at this; exact this)
      rw [size_toList] at hr
      clear hall
      by_cases h0 : s.data.toList = [48]
      · have hv : number s.data.toList = true := by rw [hr, h0]; rfl
        have Hv := Lib.hid hv
        have e1 : (s.toList == [48]) = true := by rw [Lib.toList_data, h0]; rfl
        clear hr hv h0
        go_wp2
        go_ret
        exact ⟨by rw [Hv.out]; rfl, rfl⟩
      · have e1 : (s.toList == [48]) = false := by rw [Lib.toList_data]; simpa using h0
        have e1' : ¬ s.toList = [48] := by rw [Lib.toList_data]; exact h0
        have e1'' : (s.data.toList == [48]) = false := by simpa using h0
        rw [e1'', Bool.false_or] at hr
        by_cases hz : s.size = 0
        · have hv : number s.data.toList = false := by
            rw [hr]
            have : s.data.toList = [] := List.eq_nil_of_length_eq_zero (by rw [size_toList]; exact hz)
            rw [this]; rfl
          have Hv := Lib.hid hv
          have e2 : s.toList = [] := by rw [Lib.toList_data]; exact List.eq_nil_of_length_eq_zero (by rw [size_toList]; exact hz)
          clear hr hv h0 e1'' hz
          go_wp2
          go_ret
          exact ⟨by rw [Hv.out]; rfl, rfl⟩
        · have hpos : 0 < s.size := by omega
          have e2 : s.toList.isEmpty = false := by
            rw [Lib.toList_data]; cases h : s.data.toList with
            | nil => have := size_toList s; rw [h] at this; simp at this; omega
            | cons a b => rfl
          have e3 : s.data.toList.isEmpty = false := by rw [← Lib.toList_data]; exact e2
          have e4 : s.data.toList.head? = some s[0] := by rw [List.head?_eq_getElem?]; exact get_toList s 0 hpos
          rw [e3, e4] at hr
          by_cases h9 : s.size ≤ 9
          · have d9 : decide (s.size ≤ 9) = true := by simpa using h9
            rw [d9] at hr
            by_cases h48 : s[0] = 48
            · have hv : number s.data.toList = false := by rw [hr, h48]; rfl
              have Hv := Lib.hid hv
              have e5 : ((s[0].toNat : Int) != 48) = false := by rw [h48]; rfl
              have e6 : (s.size : Int) ≤ 9 := by omega
              clear hr hv h0 e1'' h48 e3 e4 d9 hz
              go_wp2
              go_ret
              exact ⟨by rw [Hv.out]; rfl, rfl⟩
            · have hv : number s.data.toList = true := by rw [hr]; simp [h48]
              have Hv := Lib.hid hv
              have e5 : ((s[0].toNat : Int) != 48) = true := by
                rw [bne_iff_ne]; intro c; apply h48; apply UInt8.toNat_inj.1; have : (48 : UInt8).toNat = 48 := rfl; omega
              have e6 : (s.size : Int) ≤ 9 := by omega
              clear hr hv h0 e1'' h48 e3 e4 d9 hz
              go_wp2
              go_ret
              exact ⟨by rw [Hv.out]; rfl, rfl⟩
          · have d9 : decide (s.size ≤ 9) = false := by simpa using h9
            rw [d9] at hr
            have hv : number s.data.toList = false := by rw [hr]; simp
            have Hv := Lib.hid hv
            have e6 : ¬ (s.size : Int) ≤ 9 := by omega
            clear hr hv h0 e1'' e3 e4 d9 hz
            go_wp2
            go_ret
            exact ⟨by rw [Hv.out]; rfl, rfl⟩

end Go.Proofs.YtaahdhpljlkfjaaGreat.Ver

/- strings.Cut at one byte: no fact on any variable of the library's is wanted. -/
namespace Go.Proofs.YtaahdhpljlkfjaaGreat.Ver
open Go.RowKit

theorem index_one (c : UInt8) : ∀ l : Bs, Lib.index l [c] = Lib.indexByte l c
  | [] => rfl
  | b :: l => by
    rw [Lib.index, Lib.indexByte, index_one c l]
    by_cases h : b == c
    · have h' : c = b := by have : b = c := by simpa using h
                            exact this.symm
      subst h'; simp [List.isPrefixOf]
    · have h2 : ¬ c = b := fun e => h (by simp [e])
      have hp : ([c] : Bs).isPrefixOf (b :: l) = false := by simp [List.isPrefixOf, h2]
      rw [hp, if_neg h]; rfl

theorem index_any (s : ByteArray) (c : UInt8) (v : Int) (w : World) (h : Lib.indexB s ⟨#[c]⟩ = v) :
    Calls Tryz.prog 129 #[.string s, .string ⟨#[c]⟩] w fun e w' => e = .returned (.int .i64 v) ∧ w = w' := by
  refine (Tryz.stringslite_Index_one s c w).mono ?_
  rintro e w' ⟨rfl, rfl⟩
  refine ⟨?_, rfl⟩
  rw [← index_one, ← h]

set_option maxHeartbeats 800000 in
theorem slcut_miss (s : ByteArray) (c : UInt8) (w : World) (h : Lib.indexB s ⟨#[c]⟩ = -1) :
    Calls Tryz.prog 110 #[.string s, .string ⟨#[c]⟩] w fun e w' => e = .returned (.tuple #[.string s, .string ByteArray.empty, .bool false]) ∧ w = w' := by
  have H := Lib.hid h
  clear h
  go_enter Tryz.func110, Tryz.ntmps110
  go_wp2_with fail
  refine (index_any s c (-1) _ H.out).mono ?_
  rintro e w' ⟨rfl, rfl⟩
  go_wp2
  go_ret3
  exact ⟨rfl, rfl⟩

set_option maxHeartbeats 800000 in
theorem slcut_hit (s : ByteArray) (c : UInt8) (i : Nat) (w : World) (h : Lib.indexB s ⟨#[c]⟩ = i) (hi : i + 1 ≤ s.size) (hs : s.size ≤ maxLen) :
    Calls Tryz.prog 110 #[.string s, .string ⟨#[c]⟩] w fun e w' => e = .returned (.tuple #[.string (s.extract 0 i), .string (s.extract (i + 1) s.size), .bool true]) ∧ w.drew = w' := by
  unfold maxLen at hs
  have H := Lib.hid h
  have c1 : (0 : Int) ≤ ↑i := by omega
  have c2 : (↑i : Int) ≤ ↑s.size := by omega
  have c3 : (0 : Int) ≤ ↑i + 1 := by omega
  have c4 : (↑i + 1 : Int) ≤ ↑s.size := by omega
  clear h
  go_enter Tryz.func110, Tryz.ntmps110
  go_wp2_with fail
  refine (index_any s c i _ H.out).mono ?_
  rintro e w' ⟨rfl, rfl⟩
  go_wp2_with fail
  go_region
  all_goals (go_wp2; go_ret3; exact ⟨rfl, rfl⟩)

set_option maxHeartbeats 800000 in
theorem cut_miss (s : ByteArray) (c : UInt8) (w : World) (h : Lib.indexB s ⟨#[c]⟩ = -1) :
    Calls Tryz.prog 95 #[.string s, .string ⟨#[c]⟩] w fun e w' => e = .returned (.tuple #[.string s, .string ByteArray.empty, .bool false]) ∧ w = w' := by
  have H := Lib.hid h
  clear h
  go_enter Tryz.func95, Tryz.ntmps95
  go_wp2_with fail
  refine (slcut_miss s c _ H.out).mono ?_
  rintro e w' ⟨rfl, rfl⟩
  go_wp2
  go_ret3
  exact ⟨rfl, rfl⟩

set_option maxHeartbeats 800000 in
theorem cut_hit (s : ByteArray) (c : UInt8) (i : Nat) (w : World) (h : Lib.indexB s ⟨#[c]⟩ = i) (hi : i + 1 ≤ s.size) (hs : s.size ≤ maxLen) :
    Calls Tryz.prog 95 #[.string s, .string ⟨#[c]⟩] w fun e w' => e = .returned (.tuple #[.string (s.extract 0 i), .string (s.extract (i + 1) s.size), .bool true]) ∧ w.drew = w' := by
  have H := Lib.hid h
  clear h
  go_enter Tryz.func95, Tryz.ntmps95
  go_wp2_with fail
  refine (slcut_hit s c i _ H.out hi hs).mono ?_
  rintro e w' ⟨rfl, rfl⟩
  go_wp2
  go_ret3
  exact ⟨rfl, rfl⟩

theorem parts_miss {s : ByteArray} {c : UInt8} (h : Lib.indexB s ⟨#[c]⟩ = -1) : cut c s.data.toList = [s.data.toList] := by
  obtain ⟨_, _, e3⟩ := Lib.cutB_miss s ⟨#[c]⟩ h
  rw [cut_of_cut, show ([c] : Bs) = (⟨#[c]⟩ : ByteArray).data.toList from rfl, e3]; rfl
theorem parts_hit {s : ByteArray} {c : UInt8} {i : Nat} (h : Lib.indexB s ⟨#[c]⟩ = i) :
    cut c s.data.toList = (s.extract 0 i).data.toList :: cut c (s.extract (i + 1) s.size).data.toList := by
  obtain ⟨e1, e2, e3⟩ := Lib.cutB_hit s ⟨#[c]⟩ i h
  have f1 := congrArg (fun b : ByteArray => b.data.toList) e1
  have f2 := congrArg (fun b : ByteArray => b.data.toList) e2
  simp only [] at f1 f2
  rw [cut_of_cut, show ([c] : Bs) = (⟨#[c]⟩ : ByteArray).data.toList from rfl, e3, if_pos rfl, f1, f2]; rfl
theorem mk_toList (s : ByteArray) : (⟨s.data.toList.toArray⟩ : ByteArray) = s := by cases s; simp
theorem index_room' {s : ByteArray} {c : UInt8} : Lib.indexB s ⟨#[c]⟩ = -1 ∨ ∃ i : Nat, Lib.indexB s ⟨#[c]⟩ = i ∧ i + 1 ≤ s.size := Lib.indexB_cases s ⟨#[c]⟩

end Go.Proofs.YtaahdhpljlkfjaaGreat.Ver

/- The parts of a text, handed out one by one (version.parts), as a contract for whoever ranges over them. -/
namespace Go.Proofs.YtaahdhpljlkfjaaGreat.Ver
open Go.RowKit Go.Shelf
attribute [local go_sem] Oper.semAt_some

abbrev W0 : Fence := Fence.wide

/-- A part as the value that is handed out. -/
abbrev Pt := { p : Bs // p.length ≤ 1000000 }
def encP (p : Pt) : Array Value := #[.string ⟨p.1.toArray⟩]
def bss (l : List Pt) : List Bs := l.map (·.1)
theorem bss_snoc (l : List Pt) (x : Pt) : bss (l ++ [x]) = bss l ++ [x.1] := by simp [bss]

set_option maxHeartbeats 2000000 in
theorem parts_stops (n : Nat) (hn : 1 ≤ n) (B : Nat) (s : ByteArray) (w : World) (Kp : World → World → Prop) (hB : w.cell? ⟨B, 0, none⟩ = some (.string s)) (hs : s.size ≤ 1000000) :
    SeqStopsK W0 n Tryz.prog 94 #[.pointer (some ⟨B, 0, none⟩)] encP Kp (fun xs => bss xs = cut 46 s.data.toList) (fun pre => bss pre <+: cut 46 s.data.toList) (cut 46 s.data.toList).length w := by
  intro l J Jx W hW hJ hJx hY h0
  have hBW : W.cell? ⟨B, 0, none⟩ = some (.string s) := (hW.cell (World.block_lt_of_cell? w _ hB)).trans hB
  have hdraw : ∀ pre V, J pre V → J pre V.drew := fun pre V h => hJ pre V V.drew none h (grown_drew _ _) (fun r e => by cases e)
  have Hd := Lib.hid hdraw
  have HY := Lib.hid hY
  clear hY hJ hJx hdraw hW hB
  refine callsIn_of_wp Tryz.func94 rfl trivial ?_ rfl
  simp only [Tryz.ntmps94, List.size_toArray, List.length_cons, List.length_nil, Nat.reduceAdd, Nat.reduceSub, Array.replicate_succ, Array.replicate_zero, List.push_toArray, List.append_toArray, List.nil_append, List.cons_append]
  gi_wp2
  gi_loopw [3, 4] (fun r m wr => ∃ (pre : List Pt) (rr : ByteArray) (b : Bool), r = .string rr ∧ m = .bool b ∧ rr.size ≤ s.size ∧ Hid (cut 46 s.data.toList = bss pre ++ (if b then cut 46 rr.data.toList else [])) ∧ J pre wr)
    (fun r m _ => match r, m with | .string rr, .bool b => rr.size + b.toNat | _, _ => 0)
  case atStart => exact ⟨[], s, true, rfl, rfl, Nat.le_refl _, Lib.hid (by simp [bss]), h0⟩
  case round =>
    obtain ⟨pre, rr, b, rfl, rfl, hle, hcut, hJ1⟩ := hrel
    cases b with
    | false =>
      gi_wp2
      go_end0
      exact ⟨⟨_, rfl⟩, .inl ⟨pre, by have := hcut.out; simpa using this.symm, hJ1⟩⟩
    | true =>
      rcases index_room' (s := rr) (c := 46) with hm | ⟨i, hi, hroom⟩
      · have hc2 : cut 46 s.data.toList = bss pre ++ [rr.data.toList] := by rw [hcut.out, if_pos rfl, parts_miss hm]
        have Hc2 := Lib.hid hc2
        obtain ⟨x, hx⟩ : ∃ x : Pt, x.1 = rr.data.toList := ⟨⟨rr.data.toList, by rw [size_toList]; omega⟩, rfl⟩
        obtain ⟨fn, tmps, assign, body, hy, hR⟩ := HY.out pre x wr hJ1 (by rw [hc2]; simp [bss])
        have Hx := Lib.hid hx
        simp only [encP, hx, mk_toList] at hy hR
        clear hx
        have Hm := Lib.hid hm
        clear hcut hc2 hm
        gi_wp2_with fail
        refine ⟨trivial, ?_⟩
        refine (callsIn_wide.2 (cut_miss rr 46 _ Hm.out)).mono ?_
        rintro e w' ⟨rfl, rfl⟩
        gi_wp2
        refine hR.mono ?_
        rintro e W3 (⟨rfl, hJ3, hk3⟩ | ⟨rfl, hJx3⟩)
        · gi_wp2
          go_roundw
          case rel => exact ⟨pre ++ [x], ByteArray.empty, false, rfl, rfl, Nat.zero_le _, Lib.hid (by rw [Hc2.out, bss_snoc, Hx.out]; simp), hJ3⟩
          case measure => simp
        · gi_wp2
          refine bodyPost_ret (results_none rfl _ _ _) rfl ?_
          exact ⟨⟨_, rfl⟩, .inr ⟨pre ++ [x], by rw [Hc2.out, bss_snoc, Hx.out]; exact List.prefix_rfl, hJx3⟩⟩
      · have hc2 : cut 46 s.data.toList = bss pre ++ ((rr.extract 0 i).data.toList :: cut 46 (rr.extract (i + 1) rr.size).data.toList) := by rw [hcut.out, if_pos rfl, parts_hit hi]
        have Hc2 := Lib.hid hc2
        obtain ⟨x, hx⟩ : ∃ x : Pt, x.1 = (rr.extract 0 i).data.toList := ⟨⟨(rr.extract 0 i).data.toList, by
          have := ByteArray.size_extract (a := rr) (b := 0) (e := i)
          rw [size_toList]; omega⟩, rfl⟩
        obtain ⟨fn, tmps, assign, body, hy, hR⟩ := HY.out pre x wr.drew (Hd.out _ _ hJ1) (by rw [hc2]; simp [bss])
        have Hx := Lib.hid hx
        simp only [encP, hx, mk_toList] at hy hR
        clear hx
        have Hi := Lib.hid hi
        have hsz : (rr.extract (i + 1) rr.size).size + (i + 1) = rr.size := by
          have := ByteArray.size_extract (a := rr) (b := i + 1) (e := rr.size); omega
        have Hsz := Lib.hid hsz
        clear hcut hc2 hi hsz
        gi_wp2_with fail
        refine ⟨trivial, ?_⟩
        refine (callsIn_wide.2 (cut_hit rr 46 i _ Hi.out hroom (by unfold maxLen; omega))).mono ?_
        rintro e w' ⟨rfl, rfl⟩
        gi_wp2
        refine hR.mono ?_
        rintro e W3 (⟨rfl, hJ3, hk3⟩ | ⟨rfl, hJx3⟩)
        · gi_wp2
          go_roundw
          case rel => exact ⟨pre ++ [x], rr.extract (i + 1) rr.size, true, rfl, rfl, by have := Hsz.out; omega, Lib.hid (by rw [Hc2.out, bss_snoc, Hx.out]; simp), hJ3⟩
          case measure => have := Hsz.out; simp; omega
        · gi_wp2
          refine bodyPost_ret (results_none rfl _ _ _) rfl ?_
          exact ⟨⟨_, rfl⟩, .inr ⟨pre ++ [x], by rw [Hc2.out, bss_snoc, Hx.out]; exact ⟨cut 46 (rr.extract (i + 1) rr.size).data.toList, by simp⟩, hJx3⟩⟩

theorem parts_any (s : ByteArray) (w : World) :
    Calls Tryz.prog 70 #[.string s] w fun e w' => e = .returned (.func (.func 94) #[] #[.pointer (some ⟨w.heap.size, 0, none⟩)]) ∧ w.alloc (.cells #[.string s] 9) = w' := by
  go_enter Tryz.func70, Tryz.ntmps70
  go_wp2
  go_ret
  exact ⟨rfl, rfl⟩

end Go.Proofs.YtaahdhpljlkfjaaGreat.Ver
