/- The chapter's example of total. -/
import Derived.Test.YtiimhndiifojnaaToApp
import Derived.Test.YtiimhndiifojnaaAtoms
import Derived.Test.YtiimhndiifojnaaToRep
import Derived.Deep.RegionHeld3
namespace Go.Proofs.Ytiimhndiifojnaa.To
open Go.RowKit

theorem helpAtom_is (n : Int) (w : World) : Calls Try.prog 18 #[.int .i64 n] w fun e w' => e = .returned (.agg #[.int .u8 9, .int .i64 n, .int .i64 0, .int .i64 0]) ∧ Below w.heap.size w w' := by
  go_enter Try.func18, Try.ntmps18
  go_wp2
  refine bodyPost_ret (v := .agg #[.int .u8 9, .int .i64 n, .int .i64 0, .int .i64 0]) (by simp [results, Try.results18, go_sem]) rfl ⟨rfl, below_alloc' w _⟩
theorem cnfNew_is (w : World) : Calls Try.prog 11 #[] w fun e w' => e = .returned (.pointer (some ⟨w.heap.size, 0, none⟩)) ∧ w' = w.alloc (.cells #[.slice none 0 0, .bool false, .bool false] 44) := by
  go_enter Try.func11, Try.ntmps11
  go_wp2
  go_ret
  exact ⟨rfl, rfl⟩
theorem index_none (w : World) (X : Nat) (hX : w.heap[X]? = some (.cells #[.int .i64 1] 3 (0, 0))) :
    Calls Try.prog 25 #[.slice (some ⟨X, 0, none⟩) 1 1, .int .i64 0] w fun e w' => e = .returned (.int .i64 (-1)) ∧ w = w' := by
  have c0 := cells_get hX 0 (v := .int .i64 1) rfl
  clear hX
  go_enter Try.func25, Try.ntmps25
  go_wp2
  go_loop [8] (fun i => ∃ k : Nat, k ≤ 1 ∧ i = .int .i64 k) (fun i => 1 - (intOf i).toNat)
  case atStart => exact ⟨0, Nat.zero_le _, rfl⟩
  case round =>
    obtain ⟨k, hk, rfl⟩ := hrel
    by_cases hlt : k = 0
    · subst hlt
      go_wp2
      go_round
      case rel => exact ⟨1, by omega, by go_num⟩
      case measure => simp [intOf]
    · obtain rfl : k = 1 := by omega
      go_wp2
      go_ret
      exact ⟨rfl, rfl⟩
theorem contains_none (w : World) (X : Nat) (hX : w.heap[X]? = some (.cells #[.int .i64 1] 3 (0, 0))) :
    Calls Try.prog 20 #[.slice (some ⟨X, 0, none⟩) 1 1, .int .i64 0] w fun e w' => e = .returned (.bool false) ∧ w = w' := by
  have HX := Lib.hid hX
  clear hX
  go_enter Try.func20, Try.ntmps20
  go_wp2_with fail
  refine (index_none _ X HX.out).mono ?_
  rintro e w' ⟨rfl, rfl⟩
  go_wp2
  go_ret
  exact ⟨rfl, rfl⟩
theorem count_one (w : World) (X : Nat) (hX : w.heap[X]? = some (.cells #[.int .i64 1] 3 (0, 0))) (t u : Option Addr) (n : Int) :
    Calls Try.prog 21 #[.agg #[.pointer t, .pointer u, .int .i64 n], .slice (some ⟨X, 0, none⟩) 1 1] w fun e w' => e = .returned (.tuple #[.slice (some ⟨w.heap.size + 1, 0, none⟩) 1 1, .bool true]) ∧ w'.heap[w.heap.size + 1]? = some (.cells #[.int .i64 1] 3 (0, 0)) ∧ Below w.heap.size w w' := by
  have c0 := cells_get hX 0 (v := .int .i64 1) rfl
  have c1 := cell_alloc_l (.cells #[.pointer t, .pointer u, .int .i64 n] 51) c0
  have HN := Lib.hid (heap_alloc_new (w.alloc (.cells #[.pointer t, .pointer u, .int .i64 n] 51)) (.cells #[.int .i64 1] 3))
  have HB := Lib.hid ((below_alloc' w (.cells #[.pointer t, .pointer u, .int .i64 n] 51)).alloc (by simp) (.cells #[.int .i64 1] 3))
  clear hX
  go_enter Try.func21, Try.ntmps21
  go_wp2
  go_ret2
  exact ⟨rfl, by simpa using HN.out, HB.out⟩
def GivesOne (w : World) (e : Ending) (w' : World) : Prop := ∃ R, e = .returned (.slice (some ⟨R, 0, none⟩) 1 1) ∧ w'.heap[R]? = some (.cells #[.int .i64 1] 3 (0, 0)) ∧ Below w.heap.size w w'
set_option maxRecDepth 100000 in
theorem count1_is (w : World) (X pB pb : Nat) (hX : w.heap[X]? = some (.cells #[.int .i64 1] 3 (0, 0))) :
    Calls Try.prog 13 #[.pointer (some ⟨pB, 0, none⟩), .pointer (some ⟨pb, 0, none⟩), .slice (some ⟨X, 0, none⟩) 1 1, .int .i64 5] w (GivesOne w) := by
  have HX := Lib.hid hX
  have HX1 := Lib.hid (heap_below hX (below_alloc' w (.cells #[.pointer (some ⟨pB, 0, none⟩), .pointer (some ⟨pb, 0, none⟩), .int .i64 5] 51)))
  have HB := Lib.hid (below_alloc' w (.cells #[.pointer (some ⟨pB, 0, none⟩), .pointer (some ⟨pb, 0, none⟩), .int .i64 5] 51))
  clear hX
  go_enter Try.func13, Try.ntmps13
  go_wp2_with fail
  refine (contains_none _ X HX.out).mono ?_
  rintro e w' ⟨rfl, rfl⟩
  go_wp2_with fail
  refine (count_one _ X HX1.out _ _ _).mono ?_
  rintro e w2 ⟨rfl, h2, hb⟩
  rw [World.size_alloc] at h2
  have H2 := Lib.hid h2
  have HB2 := Lib.hid (HB.out.trans (hb.mono HB.out.size))
  clear h2 hb
  go_wp2
  go_ret
  exact ⟨_, rfl, H2.out, HB2.out⟩
theorem slice_info : (Try.prog.info? 23).map (fun i => (i.zero, i.size, i.bytes)) = some (some (.slice none 0 0), 1, 24) := by kernel_rfl
theorem make_none (W : World) : (Instr.makeSlice 22 (.int .i64 0) (.int .i64 0)).run Try.prog W = .ok (.slice (some ⟨W.heap.size, 0, none⟩) 0 0) (W.alloc (.cells #[] 23)) := by
  obtain ⟨i0, hi0, hz0, hz1, hz2⟩ := info_parts slice_info
  rw [run_make (P := Try.prog) W 22 23 i0 _ Try.underlying22 hi0 hz0 .i64 .i64 0 0 (by omega) (by omega) (by rw [hz2]; omega) (by omega), hz1]
  have e : madeCells (Value.slice none 0 0).cells 0 = #[] := by
    apply Array.ext'
    have := toList_madeCells_one (.slice none 0 0) 0
    rw [show (Value.slice none 0 0).cells = #[.slice none 0 0] from rfl, this]
    simp
  simp [e]
/-- Clauses of an empty builder. -/
theorem clauses_none (w : World) (b : Nat) (hb : w.heap[b]? = some (.cells #[.slice none 0 0, .bool false, .bool false] 44 (0, 0))) :
    Calls Try.prog 14 #[.pointer (some ⟨b, 0, none⟩)] w fun e w' => e = .returned (.slice (some ⟨w.heap.size, 0, none⟩) 0 0) ∧ Below w.heap.size w w' := by
  have c0 := cells_get hb 0 (v := .slice none 0 0) rfl
  have c1 := cell_alloc_l (.cells #[] 23) c0
  have hmk := make_none w
  have HB := Lib.hid (below_alloc' w (.cells #[] 23))
  clear hb
  go_enter Try.func14, Try.ntmps14
  go_wp2
  clear hmk c0 c1
  go_loop [3, 19] (fun v i => v = .slice (some ⟨w.heap.size, 0, none⟩) 0 0 ∧ i = .int .i64 0) (fun _ i => 0)
  case atStart => exact ⟨rfl, rfl⟩
  case round =>
    obtain ⟨rfl, rfl⟩ := hrel
    go_wp2
    go_ret
    exact ⟨rfl, HB.out⟩
/-- The first helping atom of an empty table. -/
theorem help_first (w : World) (base B M : Nat) (lim : Int) (h : At.Tb w base B M lim false (.slice none 0 0) []) (h1 : 1 ≤ lim) (h2 : lim ≤ 65536) (hbase : base ≤ w.heap.size) :
    Calls Try.prog 12 #[.pointer (some ⟨B, 0, none⟩)] w fun e w' => e = .returned (.int .i64 1) ∧ Touch w w' (fun i => i = B ∨ i = M) := by
  have H := Lib.hid h
  have HL := Lib.hid (And.intro h1 (And.intro h2 hbase))
  clear h h1 h2 hbase
  go_enter Try.func12, Try.ntmps12
  go_wp2
  go_loopw [5] (fun _ wr => w = wr) (fun _ _ => 0)
  case atStart => rfl
  case round =>
    subst hrel
    have c3 := cells_get H.out.1 3 (v := .int .i64 0) rfl
    have hwf : (At.Atom.mk 9 0 0 0).wf := by refine ⟨?_, ?_, ?_, ?_⟩ <;> decide
    have HWF := Lib.hid hwf
    go_wp2_with fail
    refine (helpAtom_is 0 _).mono ?_
    rintro e w1 ⟨rfl, hb1⟩
    have H1 := Lib.hid (H.out.below hb1)
    have HB1 := Lib.hid hb1
    clear hb1 c3
    go_wp2_with fail
    refine (At.look_is _ base B M lim false _ [] H1.out 9 0 0 0 HWF.out 0 rfl).mono ?_
    rintro e w2 ⟨rfl, hb2⟩
    have H2 := Lib.hid (H1.out.below hb2)
    have HB2 := Lib.hid (HB1.out.trans (hb2.mono HB1.out.size))
    have c3 := cells_get H2.out.1 3 (v := .int .i64 0) rfl
    clear hb2
    go_wp2_with fail
    refine (helpAtom_is 0 _).mono ?_
    rintro e w3 ⟨rfl, hb3⟩
    have H3 := Lib.hid (H2.out.below hb3)
    have HB3 := Lib.hid (HB2.out.trans (hb3.mono HB2.out.size))
    clear hb3 c3
    go_wp2_with fail
    refine (At.number_new _ base B M lim false _ [] H3.out 9 0 0 0 HWF.out rfl (by have := HL.out.1; show (0 : Int) < lim; omega) HL.out.2.1 (Nat.le_trans HL.out.2.2 HB3.out.size)).mono ?_
    rintro e w4 ⟨rfl, v', _, ht, _⟩
    have HT := Lib.hid ((Touch.of_below (S := fun i => i = B ∨ i = M) HB3.out).trans ht (fun i _ h => by
      rcases h with h | h | h
      · exact .inl h
      · exact .inr h
      · cases h))
    clear ht
    go_wp2
    go_ret
    exact ⟨rfl, HT.out⟩
set_option maxRecDepth 100000 in
set_option maxHeartbeats 800000 in
theorem fixed23_any (w : World) : Calls Try.prog 7 #[] w fun e w' => e = .returned (.bool true) ∧ Below w.heap.size w w' := by
  go_enter Try.func7, Try.ntmps7
  go_wp2_with fail
  refine (At.new_is _ 9 (by omega) (by omega)).mono ?_
  rintro e w1 ⟨rfl, ht, hb1⟩
  have HT := Lib.hid ht
  have HB1 := Lib.hid hb1
  clear ht hb1
  go_wp2_with fail
  refine (cnfNew_is _).mono ?_
  rintro e w2 ⟨rfl, hw2⟩
  have HNE := Lib.hid (show w1.heap.size ≠ w.heap.size + 1 ∧ w1.heap.size ≠ w.heap.size by have := lt_of_heap HT.out.1; omega)
  have HBL := Lib.hid (show w2.heap[w1.heap.size]? = some (.cells #[.slice none 0 0, .bool false, .bool false] 44 (0, 0)) by rw [hw2]; exact heap_alloc_new w1 _)
  have HT2 := Lib.hid (show At.Tb w2 w.heap.size (w.heap.size + 1) w.heap.size 9 false (.slice none 0 0) [] by rw [hw2]; exact HT.out.below (below_alloc' w1 _))
  have HB2 := Lib.hid (show Below w.heap.size w w2 by rw [hw2]; exact HB1.out.trans ((below_alloc' w1 _).mono HB1.out.size))
  clear hw2 HT HB1
  go_wp2_with fail
  refine (help_first _ w.heap.size (w.heap.size + 1) w.heap.size 9 HT2.out (by omega) (by omega) HB2.out.size).mono ?_
  rintro e w3 ⟨rfl, ht3⟩
  have HBL3 := Lib.hid (heap_touch HBL.out ht3 (fun h => h.elim HNE.out.1 HNE.out.2))
  have HB3 := Lib.hid (Touch.belows HB2.out ht3 (Nat.le_refl _) (fun i hi => by rcases hi with rfl | rfl <;> omega))
  clear ht3
  go_wp2_with fail
  refine (count1_is _ w3.heap.size (w.heap.size + 1) w1.heap.size (heap_alloc_new w3 _)).mono ?_
  rintro e w4 ⟨R, rfl, hr, hb4⟩
  have hba : Below w3.heap.size w3 w4 := (below_alloc' w3 _).trans (hb4.mono (by simp))
  have HBL4 := Lib.hid (heap_below HBL3.out hba)
  have HB4 := Lib.hid (HB3.out.trans (hba.mono HB3.out.size))
  have r0 := cells_get hr 0 (v := .int .i64 1) rfl
  clear hr hb4 hba
  go_wp2_with fail
  refine (clauses_none _ w1.heap.size HBL4.out).mono ?_
  rintro e w5 ⟨rfl, hb5⟩
  have HB5 := Lib.hid (HB4.out.trans (hb5.mono HB4.out.size))
  clear hb5
  go_wp2
  go_ret
  exact ⟨rfl, HB5.out⟩
end Go.Proofs.Ytiimhndiifojnaa.To
