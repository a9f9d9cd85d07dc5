/- slices.Repeat of one element. -/
import Derived.Test.YtiimhndiifojnaaOrKit
import Derived.Laws.CopyOwn
import Derived.Deep.RegionHeld3
namespace Go.Proofs.Ytiimhndiifojnaa.To
open Go.RowKit

def part (l : Int) (c n : Nat) : List Value := List.replicate n (.int .i64 l) ++ List.replicate (c - n) (.int .i64 0)
theorem part_zero (l : Int) (c : Nat) : (Or.i64s (List.replicate c 0)) = part l c 0 := by simp [part, Or.i64s]
theorem part_full (l : Int) (c : Nat) : part l c c = List.replicate c (.int .i64 l) := by simp [part]
theorem part_len (l : Int) {c n : Nat} (h : n ≤ c) : (part l c n).length = c := by simp [part]; omega
theorem part_get (l : Int) {c n j : Nat} (h : j < n) : (part l c n)[j]? = some (.int .i64 l) := by
  unfold part
  rw [List.getElem?_append_left (by simpa using h)]
  simp [h]
theorem part_splice (l : Int) {c n m : Nat} (h : n + m ≤ c) : splice (part l c n) n (List.replicate m (.int .i64 l)) = part l c (n + m) := by
  unfold splice part
  rw [List.take_append_of_le_length (by simp), List.take_of_length_le (by simp), List.length_replicate, List.drop_append]
  simp only [List.length_replicate, List.drop_replicate]
  rw [show n - (n + m) = 0 by omega, show c - n - (n + m - n) = c - (n + m) by omega]
  simp only [List.replicate_zero, List.nil_append]
  rw [← List.append_assoc, List.replicate_append_replicate]
theorem below_alloc' (w : World) (o : Obj) : Below w.heap.size w (w.alloc o) := (Below.refl _ _).alloc (Nat.le_refl _) _
theorem int_size : (Try.prog.info? 3).map (·.size) = some 1 := by kernel_rfl

theorem mul_one_is (c : Nat) (hc : c ≤ 1000) (w : World) :
    Calls Try.prog 23 #[.int .u64 1, .int .u64 (c : Int)] w fun e w' => e = .returned (.tuple #[.int .u64 0, .int .u64 (c : Int)]) ∧ w = w' := by
  have h := Try.bits_Mul 1 c (by omega) (by omega) w
  have e1 : 1 * c / 18446744073709551616 = 0 := by rw [Nat.one_mul]; exact Nat.div_eq_of_lt (by omega)
  have e2 : 1 * c % 18446744073709551616 = c := by rw [Nat.one_mul]; exact Nat.mod_eq_of_lt (by omega)
  rw [e1, e2] at h
  have e3 : ((1 : Nat) : Int) = 1 := rfl
  have e4 : ((0 : Nat) : Int) = 0 := rfl
  rw [e3, e4] at h
  exact h.mono fun _ _ ⟨a, b⟩ => ⟨a, b.symm⟩
theorem mul_one_at (c : Nat) (hc : c ≤ 1000) (x y : Int) (hx : x = 1) (hy : y = (c : Int)) (w : World) :
    Calls Try.prog 23 #[.int .u64 x, .int .u64 y] w fun e w' => e = .returned (.tuple #[.int .u64 0, .int .u64 (c : Int)]) ∧ w = w' := by
  subst hx hy; exact mul_one_is c hc w
set_option maxRecDepth 100000 in
set_option maxHeartbeats 400000 in
theorem repeat_is (w : World) (X c : Nat) (l : Int) (hX : w.heap[X]? = some (.cells #[.int .i64 l] 3 (0, 0))) (hc : c ≤ 1000) :
    Calls Try.prog 15 #[.slice (some ⟨X, 0, none⟩) 1 1, .int .i64 (c : Int)] w fun e w' => e = .returned (.slice (some ⟨w.heap.size, 0, none⟩) c c) ∧ w'.heap[w.heap.size]? = some (.cells (List.replicate c (.int .i64 l)).toArray 3 (0, 0)) ∧ Below w.heap.size w w' := by
  have HX := Lib.hid hX
  have HXlt := Lib.hid (lt_of_heap hX)
  have k0 : ¬ (c : Int) < 0 := by omega
  have hmk := Or.make_ints c (by omega) (c : Int) rfl
  have HA := Lib.hid (heap_alloc_new w (.cells (Or.i64s (List.replicate c 0)).toArray 3))
  have HB := Lib.hid ((Below.refl w.heap.size w).alloc (Nat.le_refl _) (.cells (Or.i64s (List.replicate c 0)).toArray 3))
  have HC := Lib.hid hc
  clear hX hc
  have hu : IntKind.u64.wrap (c : Int) = (c : Int) := IntWalk.u64_in _ (by have := HC.out; omega)
  go_enter Try.func15, Try.ntmps15
  go_wp2_with fail
  refine (mul_one_at c HC.out _ _ rfl rfl _).mono ?_
  rintro e w1 ⟨rfl, rfl⟩
  have hk1 : decide ((9223372036854775807 : Int) < (c : Int)) = false := by have := HC.out; simp; omega
  have hk2 : IntKind.i64.wrap (c : Int) = (c : Int) := IntWalk.i64_in _ (by have := HC.out; omega)
  have hk3 : wrap64 (c : Int) = (c : Int) := IntWalk.wrap64_in _ (by have := HC.out; omega)
  have hHX := Lib.hid (heap_below HX.out (below_alloc' w (.cells (Or.i64s (List.replicate c 0)).toArray 3)))
  obtain ⟨C, hC⟩ : ∃ C, C = part l c 0 := ⟨_, rfl⟩
  obtain ⟨c1, hc1⟩ : ∃ c1, c1 = List.replicate (Nat.min 1 c) (Value.int .i64 l) := ⟨_, rfl⟩
  have HA1 := Lib.hid (show (w.alloc (.cells (Or.i64s (List.replicate c 0)).toArray 3)).heap[w.heap.size]? = some (.cells C.toArray 3 (0, 0)) by rw [hC, ← part_zero]; exact HA.out)
  have HC1 := Lib.hid hc1
  have HCC := Lib.hid hC
  clear hc1 hC
  go_wp2_with (refine wpList_copy_splice rfl (.tmp 31) (.tmp 32) _ _ rfl 3 Try.underlying23 int_size _ _ _ _ _ _ rfl rfl w.heap.size 0 C 3 HA1.out c1 (by rw [HC1.out]; simp) (fun _ => ⟨rfl, _, rfl, fun j v hj => by rw [HC1.out] at hj; obtain ⟨h1, h2⟩ := List.getElem?_eq_some_iff.1 hj; simp at h1 h2; obtain rfl : j = 0 := Nat.lt_one_iff.1 (Nat.lt_of_lt_of_le h1 (Nat.min_le_left 1 c)); subst h2; exact cells_get hHX.out 0 rfl⟩) (by rw [HC1.out, HCC.out, part_len l (Nat.zero_le c)]; simp; exact Nat.min_le_right 1 c) (fun v hv => by rw [HC1.out] at hv; obtain ⟨_, rfl⟩ := List.mem_replicate.1 hv; rfl) w.heap.size w HB.out (Nat.le_refl _) ?_; intro w2 hs2 hb2; have HS2 := hs2; have HB2 := Lib.hid hb2; clear hs2 hb2)
  obtain ⟨n1, hn1⟩ : ∃ n1 : Nat, Nat.min 1 c = n1 := ⟨_, rfl⟩
  have hl1 : c1.length = n1 := by rw [HC1.out, List.length_replicate, hn1]
  have hq1 : n1 ≤ c := by rw [← hn1]; exact Nat.min_le_right 1 c
  have hq2 : n1 = 0 → c = 0 := fun e => by
    rw [← hn1] at e
    rcases Nat.eq_zero_or_pos c with h | h
    · exact h
    · have : Nat.min 1 c = 1 := Nat.min_eq_left h
      omega
  have HS3 := Lib.hid (show w2.heap[w.heap.size]? = some (.cells (part l c n1).toArray 3 (0, 0)) by
    have := HS2.out
    rw [HCC.out, HC1.out, hn1, part_splice l (n := 0) (m := n1) (by omega), Nat.zero_add] at this
    exact this)
  rw [hl1]
  clear hl1 hmk HA HA1 HCC HC1 HS2 hHX hk1 hk2 hk3 hu hn1 k0
  go_loopw [8] (fun t wr => ∃ n : Nat, n ≤ c ∧ t = .int .i64 n ∧ (n = 0 → c = 0) ∧ wr.heap[w.heap.size]? = some (.cells (part l c n).toArray 3 (0, 0)) ∧ Below w.heap.size w wr) (fun t _ => c - (intOf t).toNat)
  case atStart => exact ⟨n1, hq1, rfl, hq2, HS3.out, HB2.out⟩
  case round =>
    clear HS3 HB2 hq1 hq2
    obtain ⟨n, hn, rfl, hz, hs, hb⟩ := hrel
    have HS := Lib.hid hs
    have HBW := Lib.hid hb
    by_cases hlt : n < c
    · have hpos : 0 < n := by rcases Nat.eq_zero_or_pos n with h | h; (have := hz h; omega); exact h
      obtain ⟨m, hm⟩ : ∃ m : Nat, Nat.min n (c - n) = m := ⟨_, rfl⟩
      have hm1 : 0 < m := by rw [← hm]; exact Nat.lt_min.2 ⟨hpos, by omega⟩
      have hm2 : m ≤ n := by rw [← hm]; exact Nat.min_le_left _ _
      have hm3 : m ≤ c - n := by rw [← hm]; exact Nat.min_le_right _ _
      obtain ⟨c2, hc2⟩ : ∃ c2, c2 = List.replicate m (Value.int .i64 l) := ⟨_, rfl⟩
      have hl2 : c2.length = m := by rw [hc2, List.length_replicate]
      have HC2 := Lib.hid hc2
      have HL2 := Lib.hid hl2
      have HM := Lib.hid hm
      have HMM := Lib.hid (And.intro hm1 (And.intro hm2 hm3))
      have hwr : IntKind.i64.wrap ((n : Int) + (c2.length : Int)) = ((n + m : Nat) : Int) := by rw [hl2, show ((n : Int) + (m : Int)) = ((n + m : Nat) : Int) by omega]; exact IntWalk.i64_in _ (by have := HC.out; omega)
      have g0 : (0 : Int) ≤ (n : Int) := by omega
      have g1 : (n : Int) ≤ (c : Int) := by omega
      have g2 : ¬ c = n := by omega
      have g3 : ¬ c = 0 := by omega
      have HPS := Lib.hid (part_splice l (c := c) (n := n) (m := m) (by omega))
      have HLT := Lib.hid hlt
      clear hc2 hl2 hm hm1 hm2 hm3 hs hb hz hpos
      go_wp2_with fail
      go_region_held3 (fun _ => True) (go_keep) ((refine step_copy_splice rfl (.tmp 41) (.tmp 44) _ _ rfl 3 Try.underlying23 int_size _ _ _ _ _ _ rfl rfl w.heap.size n (part l c n) 3 HS.out c2 (by rw [HL2.out]; exact HM.out.symm) (fun _ => ⟨rfl, _, rfl, fun j v hj => by rw [HC2.out] at hj; obtain ⟨h1, h2⟩ := List.getElem?_eq_some_iff.1 hj; simp at h1 h2; subst h2; have := HMM.out; rw [Addr.add_lit, Nat.zero_add]; exact cells_get HS.out j (by simpa using part_get l (c := c) (n := n) (j := j) (by omega))⟩) (by rw [HL2.out, part_len l (by have := HLT.out; omega)]; have := HMM.out; have := HLT.out; omega) (fun v hv => by rw [HC2.out] at hv; obtain ⟨_, rfl⟩ := List.mem_replicate.1 hv; rfl) w.heap.size w (by first | exact HBW.out | exact below_draws HBW.out 1) (Nat.le_refl _) ?_; intro w3 hs3 hb3; have HS4 := hs3; have HB4 := Lib.hid hb3; clear hs3 hb3))
      have HS5 := Lib.hid (show w3.heap[w.heap.size]? = some (.cells (part l c (n + m)).toArray 3 (0, 0)) by
        have := HS4.out
        rwa [HC2.out, HPS.out] at this)
      have HMB := HMM.out
      clear HS4
      go_roundw
      case rel =>
        refine ⟨_, _, _, _, _, _, _, _, _, _, _, _, _, _, ⟨n + m, by omega, ?_, fun e => by omega, HS5.out, HB4.out⟩, rfl⟩
        go_num
      case measure => simp [intOf]; omega
    · obtain rfl : n = c := by omega
      clear hs hb hz
      go_wp2
      go_ret
      exact ⟨rfl, by rw [← part_full l n]; exact HS.out, HBW.out⟩
end Go.Proofs.Ytiimhndiifojnaa.To
