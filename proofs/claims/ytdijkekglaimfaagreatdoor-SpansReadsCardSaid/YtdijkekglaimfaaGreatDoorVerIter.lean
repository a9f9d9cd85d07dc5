/- The parts of a text, handed out one by one (version.parts), as a contract for whoever ranges over them. -/
import Derived.Test.YtdijkekglaimfaaGreatDoorVerCut
import Derived.RangeFuncNested
import Derived.RangeFuncBound
import Derived.RangeFuncCalls
import Derived.RangeFuncLeaves
import Derived.Shelf.Abstract
import Derived.Shelf.RegionOpen
import Derived.OwnWalkIn
import Derived.TacticsInMore
import Derived.LoopNIn
import Derived.LoopIn
namespace Go.Proofs.YtdijkekglaimfaaGreatDoor.Ver
open Go.RowKit Go.Shelf
attribute [local go_sem] Oper.semAt_some

abbrev W0 : Fence := Fence.wide

/-- A part as the value that is handed out. -/
abbrev Pt := { p : Bs // p.length ≤ 1000000 }
def encP (p : Pt) : Array Value := #[.string ⟨p.1.toArray⟩]
def bss (l : List Pt) : List Bs := l.map (·.1)
theorem bss_snoc (l : List Pt) (x : Pt) : bss (l ++ [x]) = bss l ++ [x.1] := by simp [bss]

set_option maxHeartbeats 2000000 in
theorem parts_stops (n : Nat) (hn : 1 ≤ n) (B : Nat) (s : ByteArray) (w : World) (Kp : World → World → Prop) (hB : w.cell? ⟨B, 0, none⟩ = some (.string s)) (hs : s.size ≤ 1000000) :
    SeqStopsK W0 n Tryz.prog 76 #[.pointer (some ⟨B, 0, none⟩)] encP Kp (fun xs => bss xs = cut 46 s.data.toList) (fun pre => bss pre <+: cut 46 s.data.toList) (cut 46 s.data.toList).length w := by
  intro l J Jx W hW hJ hJx hY h0
  have hBW : W.cell? ⟨B, 0, none⟩ = some (.string s) := (hW.cell (World.block_lt_of_cell? w _ hB)).trans hB
  have hdraw : ∀ pre V, J pre V → J pre V.drew := fun pre V h => hJ pre V V.drew none h (grown_drew _ _) (fun r e => by cases e)
  have Hd := Lib.hid hdraw
  have HY := Lib.hid hY
  clear hY hJ hJx hdraw hW hB
  refine callsIn_of_wp Tryz.func76 rfl trivial ?_ rfl
  simp only [Tryz.ntmps76, List.size_toArray, List.length_cons, List.length_nil, Nat.reduceAdd, Nat.reduceSub, Array.replicate_succ, Array.replicate_zero, List.push_toArray, List.append_toArray, List.nil_append, List.cons_append]
  gi_wp2
  gi_loopw [3, 4] (fun r m wr => ∃ (pre : List Pt) (rr : ByteArray) (b : Bool), r = .string rr ∧ m = .bool b ∧ rr.size ≤ s.size ∧ Hid (cut 46 s.data.toList = bss pre ++ (if b then cut 46 rr.data.toList else [])) ∧ J pre wr)
    (fun r m _ => match r, m with | .string rr, .bool b => rr.size + b.toNat | _, _ => 0)
  case atStart => exact ⟨[], s, true, rfl, rfl, Nat.le_refl _, Lib.hid (by simp [bss]), h0⟩
  case round =>
    obtain ⟨pre, rr, b, rfl, rfl, hle, hcut, hJ1⟩ := hrel
    cases b with
    | false =>
      gi_wp2
      go_end0
      exact ⟨⟨_, rfl⟩, .inl ⟨pre, by have := hcut.out; simpa using this.symm, hJ1⟩⟩
    | true =>
      rcases index_room' (s := rr) (c := 46) with hm | ⟨i, hi, hroom⟩
      · have hc2 : cut 46 s.data.toList = bss pre ++ [rr.data.toList] := by rw [hcut.out, if_pos rfl, parts_miss hm]
        have Hc2 := Lib.hid hc2
        obtain ⟨x, hx⟩ : ∃ x : Pt, x.1 = rr.data.toList := ⟨⟨rr.data.toList, by rw [size_toList]; omega⟩, rfl⟩
        obtain ⟨fn, tmps, assign, body, hy, hR⟩ := HY.out pre x wr hJ1 (by rw [hc2]; simp [bss])
        have Hx := Lib.hid hx
        simp only [encP, hx, mk_toList] at hy hR
        clear hx
        have Hm := Lib.hid hm
        clear hcut hc2 hm
        gi_wp2_with fail
        refine ⟨trivial, ?_⟩
        refine (callsIn_wide.2 (cut_miss rr 46 _ Hm.out)).mono ?_
        rintro e w' ⟨rfl, rfl⟩
        gi_wp2
        refine hR.mono ?_
        rintro e W3 (⟨rfl, hJ3, hk3⟩ | ⟨rfl, hJx3⟩)
        · gi_wp2
          go_roundw
          case rel => exact ⟨pre ++ [x], ByteArray.empty, false, rfl, rfl, Nat.zero_le _, Lib.hid (by rw [Hc2.out, bss_snoc, Hx.out]; simp), hJ3⟩
          case measure => simp
        · gi_wp2
          refine bodyPost_ret (results_none rfl _ _ _) rfl ?_
          exact ⟨⟨_, rfl⟩, .inr ⟨pre ++ [x], by rw [Hc2.out, bss_snoc, Hx.out]; exact List.prefix_rfl, hJx3⟩⟩
      · have hc2 : cut 46 s.data.toList = bss pre ++ ((rr.extract 0 i).data.toList :: cut 46 (rr.extract (i + 1) rr.size).data.toList) := by rw [hcut.out, if_pos rfl, parts_hit hi]
        have Hc2 := Lib.hid hc2
        obtain ⟨x, hx⟩ : ∃ x : Pt, x.1 = (rr.extract 0 i).data.toList := ⟨⟨(rr.extract 0 i).data.toList, by
          have := ByteArray.size_extract (a := rr) (b := 0) (e := i)
          rw [size_toList]; omega⟩, rfl⟩
        obtain ⟨fn, tmps, assign, body, hy, hR⟩ := HY.out pre x wr.drew (Hd.out _ _ hJ1) (by rw [hc2]; simp [bss])
        have Hx := Lib.hid hx
        simp only [encP, hx, mk_toList] at hy hR
        clear hx
        have Hi := Lib.hid hi
        have hsz : (rr.extract (i + 1) rr.size).size + (i + 1) = rr.size := by
          have := ByteArray.size_extract (a := rr) (b := i + 1) (e := rr.size); omega
        have Hsz := Lib.hid hsz
        clear hcut hc2 hi hsz
        gi_wp2_with fail
        refine ⟨trivial, ?_⟩
        refine (callsIn_wide.2 (cut_hit rr 46 i _ Hi.out hroom (by unfold maxLen; omega))).mono ?_
        rintro e w' ⟨rfl, rfl⟩
        gi_wp2
        refine hR.mono ?_
        rintro e W3 (⟨rfl, hJ3, hk3⟩ | ⟨rfl, hJx3⟩)
        · gi_wp2
          go_roundw
          case rel => exact ⟨pre ++ [x], rr.extract (i + 1) rr.size, true, rfl, rfl, by have := Hsz.out; omega, Lib.hid (by rw [Hc2.out, bss_snoc, Hx.out]; simp), hJ3⟩
          case measure => have := Hsz.out; simp; omega
        · gi_wp2
          refine bodyPost_ret (results_none rfl _ _ _) rfl ?_
          exact ⟨⟨_, rfl⟩, .inr ⟨pre ++ [x], by rw [Hc2.out, bss_snoc, Hx.out]; exact ⟨cut 46 (rr.extract (i + 1) rr.size).data.toList, by simp⟩, hJx3⟩⟩

theorem parts_any (s : ByteArray) (w : World) :
    Calls Tryz.prog 56 #[.string s] w fun e w' => e = .returned (.func (.func 76) #[] #[.pointer (some ⟨w.heap.size, 0, none⟩)]) ∧ w.alloc (.cells #[.string s] 9) = w' := by
  go_enter Tryz.func56, Tryz.ntmps56
  go_wp2
  go_ret
  exact ⟨rfl, rfl⟩

end Go.Proofs.YtdijkekglaimfaaGreatDoor.Ver
