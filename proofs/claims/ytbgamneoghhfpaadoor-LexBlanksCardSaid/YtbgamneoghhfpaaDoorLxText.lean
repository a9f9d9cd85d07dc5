/- The document's Text. -/
import Derived.Test.YtbgamneoghhfpaaDoorLxTextMath
import Derived.Test.YtbgamneoghhfpaaDoorBld
import Derived.Test.YtbgamneoghhfpaaDoorBuild
import Derived.Test.YtbgamneoghhfpaaDoorLxSame
namespace Go.Proofs.YtbgamneoghhfpaaDoor.Lx
open Go.RowKit

abbrev BB (b : Nat) (l : Bs) (w : World) : Prop := Lib.IsBuilderF 54 5 b b (Lib.byteCells l) w
theorem bb_byte {b : Nat} {l : Bs} {c : UInt8} {w : World} (h : Lib.BuilderAtF 54 5 b b (.pointer (some ⟨b, 0, none⟩)) (Lib.byteCells l ++ [.int .u8 (c.toNat : Int)]) w) : BB b (l ++ [c]) w := by
  unfold BB; rw [Lib.byteCells_append]; exact Or.inr h
theorem bb_str {b : Nat} {l : Bs} {s : ByteArray} {w : World} (h : Lib.BuilderAtF 54 5 b b (.pointer (some ⟨b, 0, none⟩)) (Lib.byteCells l ++ Lib.strCells s) w) : BB b (l ++ s.data.toList) w := by
  unfold BB; rw [Lib.byteCells_append, ← Lib.strCells_eq]; exact Or.inr h

set_option maxRecDepth 100000 in
set_option maxHeartbeats 2000000 in
theorem text_any (w : World) (v : Value) (ls : List Line) (h : Lines w v ls) (hT : (textS ls).length ≤ 70368744177664) :
    Calls Tryd.prog 11 #[v] w fun e w' => e = .returned (.string (mk (textS ls))) ∧ Below w.heap.size w w' := by
  obtain ⟨A, L, c, rfl, hL, h1, h2, h3⟩ := h.open'
  unfold maxLen at h2
  have H3 := Lib.hid h3
  have HL := Lib.hid hL
  have HT := Lib.hid hT
  have hI0 := Lib.IsBuilderF.of (Lib.fresh_isBuilder 54 5 w)
  have HI0 := Lib.hid (show BB w.heap.size [] _ from hI0)
  have HB0 := Lib.hid ((Below.refl w.heap.size w).alloc (Nat.le_refl _) (.cells #[.pointer none, .slice none 0 0] 54))
  clear h hL h3 hT hI0
  go_enter Tryd.func11, Tryd.ntmps11
  go_wp2
  go_loopw [10] (fun i wr => ∃ k : Nat, k ≤ L ∧ i = .int .i64 k ∧ BB w.heap.size (textTo ls k) wr ∧ Below w.heap.size w wr) (fun i _ => L - (intOf i).toNat)
  case atStart => exact ⟨0, Nat.zero_le _, rfl, HI0.out, HB0.out⟩
  case round =>
    obtain ⟨k, hk, rfl, hbb, hbw⟩ := hrel
    have HBB := Lib.hid hbb
    have HB := Lib.hid hbw
    have hsz := hbw.size
    clear hbb HI0 HB0
    by_cases hlt : k < L
    · obtain ⟨b, rfl, hb, hc⟩ := H3.out (by omega)
      obtain ⟨g1, u, g2, g3⟩ := hc k hlt
      obtain ⟨A1, L1, c1, rfl, hL1, k1, k2, k3⟩ := g3.open'
      unfold maxLen at k2
      have q1 := (hbw.cell (p := ⟨b, k * 2, none⟩) hb).trans g1
      have q2 := (hbw.cell (p := ⟨b, k * 2 + 1, none⟩) hb).trans g2
      have K3 := Lib.hid k3
      have HL1 := Lib.hid hL1
      have i0 : (0 : Int) ≤ (k : Int) := by omega
      have i1 : (k : Int) < (L : Int) := by omega
      have hkl : k < ls.length := by rw [← HL.out]; exact hlt
      have HKL := Lib.hid hkl
      generalize (nthL ls k).1 = x at q1
      have HBA := Lib.hid (HBB.out.alloc (.cells #[.int .i64 (x : Nat), .slice A1 L1 c1] 37))
      have HBL := Lib.hid (HB.out.alloc hsz (.cells #[.int .i64 (x : Nat), .slice A1 L1 c1] 37))
      clear hc g1 g2 g3 hL1 k3 hbw hkl
      go_wp2
      clear q1 q2
      go_loopw [17] (fun i wx => ∃ j : Nat, j ≤ L1 ∧ i = .int .i64 j ∧ BB w.heap.size (textTo ls k ++ joinTo (nthL ls k).2 j) wx ∧ Below w.heap.size w wx) (fun i _ => L1 - (intOf i).toNat)
      case atStart => exact ⟨0, Nat.zero_le _, rfl, by rw [joinTo, List.append_nil]; exact HBA.out, HBL.out⟩
      case round =>
        obtain ⟨j, hj, rfl, hbb, hbw⟩ := hrel
        have hszx := hbw.size
        by_cases hltj : j < L1
        · obtain ⟨b1, rfl, hb1, hc1⟩ := K3.out (by omega)
          obtain ⟨r1, r2⟩ := hc1 j hltj
          have s1 := (hbw.cell (p := ⟨b1, j * 2, none⟩) hb1).trans r1
          have s2 := (hbw.cell (p := ⟨b1, j * 2 + 1, none⟩) hb1).trans r2
          have j0 : (0 : Int) ≤ (j : Int) := by omega
          have j1 : (j : Int) < (L1 : Int) := by omega
          have hroom := text_room ls HKL.out (j := j + 1) (by rw [← HL1.out]; omega)
          have hT := HT.out
          rw [joinTo_succ] at hroom
          simp only [List.length_append] at hroom
          have hsucc := joinTo_succ (nthL ls k).2 j
          generalize (nthW (nthL ls k).2 j).1 = y at s1
          generalize (nthW (nthL ls k).2 j).2 = T at s2 hroom hsucc
          obtain ⟨W7, hW7⟩ : ∃ W7, W7 = wr.alloc (.cells #[.int .i64 (y : Nat), .string T] 39) := ⟨_, rfl⟩
          have HW7 := Lib.hid hW7
          have h7 : W7.heap[wr.heap.size]? = some (.cells #[.int .i64 (y : Nat), .string T] 39 (0, 0)) := by rw [hW7]; exact heap_alloc_new wr _
          have B7 : BB w.heap.size (textTo ls k ++ joinTo (nthL ls k).2 j) W7 := by rw [hW7]; exact Lib.IsBuilderF.alloc hbb _
          have b7 : Below w.heap.size w W7 := by rw [hW7]; exact hbw.alloc hszx _
          have hne7 : some wr.heap.size ≠ some w.heap.size := by
            intro e
            have e' : wr.heap.size = w.heap.size := Option.some.inj e
            obtain ⟨v, hv, _⟩ : ∃ v, wr.heap[w.heap.size]? = some v ∧ True := by
              rcases hbb with ⟨_, v, hv, _⟩ | ⟨_, v, hv, _⟩ <;> exact ⟨_, hv, trivial⟩
            rw [← e', Array.getElem?_eq_none (Nat.le_refl _)] at hv
            cases hv
          have H7 := Lib.hid h7
          have HB7 := Lib.hid B7
          have Hb7 := Lib.hid b7
          have HN7 := Lib.hid hne7
          have HRM := Lib.hid hroom
          have HTT := Lib.hid hT
          have HSU := Lib.hid hsucc
          have hz7 : w.heap.size ≤ W7.heap.size := b7.size
          clear hbb hbw hc1 r1 r2 hroom hT hsucc h7 B7 b7 hne7 hW7
          by_cases hj0 : j = 0
          · subst hj0
            have z7 := cells_get H7.out 1 (v := .string T) rfl
            clear HBA HBL HBB HB
            go_wp2_with fail
            rw [← HW7.out]
            refine (Bld.writeString_k w.heap.size w.heap.size _ T _ HB7.out (by have h1 := HRM.out; have h2 := HTT.out; rw [Lib.byteCells_length, List.length_append]; simp at h1; omega) hz7).mono ?_
            rintro e w8 ⟨rfl, h8, b8, o8⟩
            have HB8 := Lib.hid (bb_str h8)
            have Hb8 := Lib.hid (Hb7.out.trans b8)
            clear h8 b8 o8
            go_wp2
            go_roundw
            case rel => exact ⟨0 + 1, by omega, by go_num, by rw [HSU.out]; simpa using HB8.out, Hb8.out⟩
            case measure => simp [intOf]; omega
          · have hjp : (0 : Int) < (j : Int) := by omega
            clear HBA HBL HBB HB
            go_wp2_with fail
            rw [← HW7.out]
            refine (Bld.writeByte_k w.heap.size w.heap.size _ 32 _ HB7.out (by have h1 := HRM.out; have h2 := HTT.out; rw [Lib.byteCells_length, List.length_append]; simp at h1; omega) hz7).mono ?_
            rintro e w8 ⟨rfl, h8, b8, o8⟩
            have HB8 := Lib.hid (bb_byte (c := 32) h8)
            have Hb8 := Lib.hid (Hb7.out.trans b8)
            have hc8 := o8 _ _ H7.out HN7.out (fun c fz e => by injection e with _ e2 _; exact absurd e2 (by decide))
            have z8 := cells_get hc8 1 (v := .string T) rfl
            have hz8 : w.heap.size ≤ w8.heap.size := Hb8.out.size
            clear h8 b8 o8 hc8
            go_wp2_with fail
            refine (Bld.writeString_k w.heap.size w.heap.size _ T _ HB8.out (by have h1 := HRM.out; have h2 := HTT.out; rw [Lib.byteCells_length, List.length_append, List.length_append]; simp [hj0] at h1; simp; omega) hz8).mono ?_
            rintro e w9 ⟨rfl, h9, b9, o9⟩
            have HB9 := Lib.hid (bb_str h9)
            have Hb9 := Lib.hid (Hb8.out.trans b9)
            clear h9 b9 o9 z8
            go_wp2
            go_roundw
            case rel => exact ⟨j + 1, by omega, by go_num, by rw [HSU.out, if_neg hj0]; simpa using HB9.out, Hb9.out⟩
            case measure => simp [intOf]; omega
        · obtain rfl : j = L1 := by omega
          have hroom := text_room ls HKL.out (j := j) (by rw [← HL1.out]; exact Nat.le_refl _)
          have hT := HT.out
          have HRM := Lib.hid hroom
          have HTT := Lib.hid hT
          have HBX := Lib.hid hbb
          have HBW := Lib.hid hbw
          have hsu := textTo_succ ls k
          rw [← HL1.out] at hsu
          have HSU := Lib.hid hsu
          clear hroom hT hbb hbw hsu HBA HBL HBB HB
          go_wp2_with fail
          refine (Bld.writeByte_k w.heap.size w.heap.size _ 10 _ HBX.out (by have h1 := HRM.out; have h2 := HTT.out; rw [Lib.byteCells_length]; omega) hszx).mono ?_
          rintro e w8 ⟨rfl, h8, b8, o8⟩
          have HB8 := Lib.hid (bb_byte (c := 10) h8)
          have Hb8 := Lib.hid (HBW.out.trans b8)
          clear h8 b8 o8
          go_wp2
          go_roundw
          case rel => exact ⟨k + 1, by omega, by go_num, by rw [HSU.out]; exact HB8.out, Hb8.out⟩
          case measure => simp [intOf]; omega
    · obtain rfl : k = L := by omega
      go_wp2_with fail
      refine (Tryd.Builder_String_any_k w.heap.size w.heap.size _ _ HBB.out hsz).mono ?_
      rintro e w8 ⟨rfl, _, b8, _⟩
      have HB8 := Lib.hid (HB.out.trans b8)
      clear b8
      go_wp2
      go_ret
      refine ⟨?_, HB8.out⟩
      unfold textS
      rw [← HL.out]
      rfl
end Go.Proofs.YtbgamneoghhfpaaDoor.Lx
