/- A new heap. -/
import Derived.Test.YtnapkgnbkkilgaaHpOps
namespace Go.Proofs.Ytnapkgnbkkilgaa.Hp
open Go.RowKit

theorem int_info : (Try.prog.info? 3).map (fun i => (i.zero, i.size, i.bytes)) = some (some (.int .i64 0), 1, 8) := by kernel_rfl

/-- A number is appended to a row of the call's own. -/
theorem app_int {ops : Array Oper} {rest : List Oper} {o : Oper} {a : Act} {Q : Exit → Act → World → Prop} {W : World} {base n blk cp : Nat} {A : Option Addr} {xs : List Value} (x : Int) (s y : Operand)
    (hgd : o.guard = none) (ho : o.op = .call { callee := .builtin .append, args := #[s, y], argTypes := #[41, 41] })
    (hs : a.eval s = .slice A n cp) (hown : W.ownsRow base 3 1 (.slice A n cp) n xs) (hx : a.eval y = .slice (some ⟨blk, 0, none⟩) 1 1)
    (hn : W.heap[blk]? = some (.cells #[.int .i64 x] 3 (0, 0))) (hsz : n ≤ 200000) (hbase : base ≤ W.heap.size)
    (h : ∀ g cap w', w'.ownsRow base 3 1 (.slice (some ⟨g, 0, none⟩) (n + 1) cap) (n + 1) (xs ++ [.int .i64 x]) → W.grownBy w' (Value.slice A n cp).ownBlock → ((Value.slice A n cp).ownBlock = some g ∨ g = W.heap.size) → g < w'.heap.size → wpList Try.prog ops Q rest (a.put o.dst (.slice (some ⟨g, 0, none⟩) (n + 1) cap)) w') :
    wpList Try.prog ops Q (o :: rest) a W := by
  obtain ⟨i0, hi0, hz0, hz1, hz2⟩ := info_parts int_info
  refine wpList_plain hgd fun K hK => ?_
  exact wp_append_lies W s y 41 ho base 3 i0 _ 1 8 Try.underlying41 hi0 hz0 hz1 hz2 rfl (by omega) _ n xs hs hown ⟨blk, 0, none⟩ 1 1 [.int .i64 x] hx rfl
    (World.news_of_block (cs := #[.int .i64 x]) hn) (by simp [Value.oneCell']) (by omega) (by unfold maxLen; omega) (by omega) hbase _ rfl (fun g cap w' h1 h2 h3 h4 => hK _ _ (h g cap w' h1 h2 h3 h4))

/-- What the append and the store of the row make of a heap. -/
theorem Hp.grow {w w1 : World} {X : Obj} {base B S P x n g cap cp : Nat} {A : Option Addr} {sc row pl : List Nat} (h : Hp w base B S P (.slice A n cp) sc row pl) (hn : n = row.length)
    (ho : w1.ownsRow base 3 1 (.slice (some ⟨g, 0, none⟩) (n + 1) cap) (n + 1) (i64s row ++ [.int .i64 (x : Int)])) (hg : (w.alloc X).grownBy w1 (Value.slice A n cp).ownBlock)
    (hat : (Value.slice A n cp).ownBlock = some g ∨ g = (w.alloc X).heap.size) :
    Hp (w1.setCell ⟨B, 1, none⟩ (.slice (some ⟨g, 0, none⟩) (n + 1) cap)) base B S P (.slice (some ⟨g, 0, none⟩) (n + 1) cap) sc (row ++ [x]) pl := by
  subst hn
  have hBS : S ≠ B := by
    rintro rfl; have := h.head; rw [h.score] at this; injection this with this; injection this with _ ht; exact absurd ht (by decide)
  have hBP : P ≠ B := by
    rintro rfl; have := h.head; rw [h.place] at this; injection this with this; injection this with _ ht; exact absurd ht (by decide)
  have a1 := own_apart h.own h.head (by decide)
  have a2 := own_apart h.own h.score (by decide)
  have hb : Below w.heap.size w (w.alloc X) := (Below.refl _ _).alloc (Nat.le_refl _) _
  have h1 := heap_grown (heap_below h.head hb) hg (Ne.symm a1)
  have h2 := heap_grown (heap_below h.score hb) hg (Ne.symm a2)
  have h3 := heap_grown (heap_below h.place hb) hg (Ne.symm h.apart)
  have hB' := own_apart ho h1 (by decide)
  refine ⟨cells_set h1 1 _, heap_set_far h2 hBS, heap_set_far h3 hBP, ?_, ?_, h.same, h.few, h.least⟩
  · have e : i64s (row ++ [x]) = i64s row ++ [.int .i64 (x : Int)] := by simp [i64s]
    rw [List.length_append, List.length_singleton, e]
    exact own_touch ho (Touch.of_grown (S := fun i => i = B) (grown_set _ _ _ _) (fun i e => by cases e; rfl)) (fun g' e e2 => hB' (by rw [← e2, ← e]))
  · simp only [Value.ownBlock, ne_eq, Option.some.injEq]
    rintro rfl
    rcases hat with e | e
    · exact h.apart e
    · have := lt_of_heap h.place
      simp at e
      omega

theorem u64_info : (Try.prog.info? 28).map (fun i => (i.zero, i.size, i.bytes)) = some (some (.int .u64 0), 1, 8) := by kernel_rfl

def zs (n : Nat) : Array Value := (i64s (List.replicate n 0)).toArray
def us (n : Nat) : Array Value := (u64s (List.replicate n 0)).toArray

theorem make_ints (n : Nat) (hn : n ≤ 65537) (x : Int) (hx : x = n) (W : World) : (Instr.makeSlice 41 (.int .i64 x) (.int .i64 x)).run Try.prog W = .ok (.slice (some ⟨W.heap.size, 0, none⟩) n n) (W.alloc (.cells (zs n) 3)) := by
  subst hx
  obtain ⟨i0, hi0, hz0, hz1, hz2⟩ := info_parts int_info
  rw [run_make (P := Try.prog) W 41 3 i0 _ Try.underlying41 hi0 hz0 .i64 .i64 n n (by omega) (by omega) (by rw [hz2]; omega) (by omega), hz1]
  have e : madeCells (Value.int .i64 0).cells n = zs n := by
    apply Array.ext'
    have := toList_madeCells_one (.int .i64 0) n
    rw [show (Value.int .i64 0).cells = #[.int .i64 0] from rfl, this]
    simp [zs, i64s]
  simp [e]

theorem make_u64s (n : Nat) (hn : n ≤ 65537) (x : Int) (hx : x = n) (W : World) : (Instr.makeSlice 27 (.int .i64 x) (.int .i64 x)).run Try.prog W = .ok (.slice (some ⟨W.heap.size, 0, none⟩) n n) (W.alloc (.cells (us n) 28)) := by
  subst hx
  obtain ⟨i0, hi0, hz0, hz1, hz2⟩ := info_parts u64_info
  rw [run_make (P := Try.prog) W 27 28 i0 _ Try.underlying27 hi0 hz0 .i64 .i64 n n (by omega) (by omega) (by rw [hz2]; omega) (by omega), hz1]
  have e : madeCells (Value.int .u64 0).cells n = us n := by
    apply Array.ext'
    have := toList_madeCells_one (.int .u64 0) n
    rw [show (Value.int .u64 0).cells = #[.int .u64 0] from rfl, this]
    simp [us, u64s]
  simp [e]

theorem zs_size (n : Nat) : (List.replicate n 0).length = n := by simp

theorem hp_made1 (w : World) (n : Nat) (hn : n ≤ 65536) : Hp ((((w.alloc (.cells (us (n + 1)) 28)).alloc (.cells (zs (n + 1)) 3)).alloc (.cells #[.slice (some ⟨w.heap.size, 0, none⟩) (n + 1) (n + 1), .slice none 0 0, .slice (some ⟨w.heap.size + 1, 0, none⟩) (n + 1) (n + 1)] 44))) w.heap.size (w.heap.size + 1 + 1) w.heap.size (w.heap.size + 1) (.slice none 0 0) (List.replicate (n + 1) 0) [] (List.replicate (n + 1) 0) := by
  have h1 := heap_alloc_new w (.cells (us (n + 1)) 28)
  have h2 := heap_alloc_new (w.alloc (.cells (us (n + 1)) 28)) (.cells (zs (n + 1)) 3)
  have h3 := heap_alloc_new ((w.alloc (.cells (us (n + 1)) 28)).alloc (.cells (zs (n + 1)) 3)) (.cells #[.slice (some ⟨w.heap.size, 0, none⟩) (n + 1) (n + 1), .slice none 0 0, .slice (some ⟨w.heap.size + 1, 0, none⟩) (n + 1) (n + 1)] 44)
  refine ⟨?_, heap_below (heap_below h1 ((Below.refl _ _).alloc (Nat.le_refl _) _)) ((Below.refl _ _).alloc (Nat.le_refl _) _), ?_, World.ownsRow_nil _ _ _ _, by simp [Value.ownBlock], by simp, by simp; omega, by omega⟩
  · simpa using h3
  · have := heap_below h2 ((Below.refl _ _).alloc (Nat.le_refl _) (.cells #[.slice (some ⟨w.heap.size, 0, none⟩) (n + 1) (n + 1), .slice none 0 0, .slice (some ⟨w.heap.size + 1, 0, none⟩) (n + 1) (n + 1)] 44))
    simpa [zs] using this

theorem hp_made2 (w : World) (n : Nat) (hn : n ≤ 65536) : Hp ((((w.alloc (.cells (zs (n + 1)) 3)).alloc (.cells (us (n + 1)) 28)).alloc (.cells #[.slice (some ⟨w.heap.size + 1, 0, none⟩) (n + 1) (n + 1), .slice none 0 0, .slice (some ⟨w.heap.size, 0, none⟩) (n + 1) (n + 1)] 44))) w.heap.size (w.heap.size + 1 + 1) (w.heap.size + 1) w.heap.size (.slice none 0 0) (List.replicate (n + 1) 0) [] (List.replicate (n + 1) 0) := by
  have h1 := heap_alloc_new w (.cells (zs (n + 1)) 3)
  have h2 := heap_alloc_new (w.alloc (.cells (zs (n + 1)) 3)) (.cells (us (n + 1)) 28)
  have h3 := heap_alloc_new ((w.alloc (.cells (zs (n + 1)) 3)).alloc (.cells (us (n + 1)) 28)) (.cells #[.slice (some ⟨w.heap.size + 1, 0, none⟩) (n + 1) (n + 1), .slice none 0 0, .slice (some ⟨w.heap.size, 0, none⟩) (n + 1) (n + 1)] 44)
  refine ⟨?_, ?_, heap_below (heap_below h1 ((Below.refl _ _).alloc (Nat.le_refl _) _)) ((Below.refl _ _).alloc (Nat.le_refl _) _), World.ownsRow_nil _ _ _ _, by simp [Value.ownBlock], by simp, by simp; omega, by omega⟩
  · simpa using h3
  · have := heap_below h2 ((Below.refl _ _).alloc (Nat.le_refl _) (.cells #[.slice (some ⟨w.heap.size + 1, 0, none⟩) (n + 1) (n + 1), .slice none 0 0, .slice (some ⟨w.heap.size, 0, none⟩) (n + 1) (n + 1)] 44))
    simpa [us] using this

def plF (n k : Nat) : List Nat := (List.range (n + 1)).map fun i => if i ≤ k then i else 0
theorem plF_zero (n : Nat) : plF n 0 = List.replicate (n + 1) 0 := by
  unfold plF
  rw [List.eq_replicate_iff]
  refine ⟨by simp, fun b hb => ?_⟩
  obtain ⟨i, _, rfl⟩ := List.mem_map.1 hb
  split <;> omega
theorem plF_all (n : Nat) : plF n n = List.range (n + 1) := by
  unfold plF
  rw [List.map_congr_left (g := id) (fun i hi => by rw [if_pos (by have := List.mem_range.1 hi; omega)]; rfl), List.map_id]
theorem plF_set {n k : Nat} : (plF n k).set (k + 1) (k + 1) = plF n (k + 1) := by
  apply List.ext_getElem
  · simp [plF]
  · intro i h1 h2
    simp [plF, List.getElem_set]
    split
    · subst_vars; simp
    · by_cases h : i ≤ k
      · rw [if_pos h, if_pos (by omega)]
      · rw [if_neg h, if_neg (by omega)]
theorem plF_len (n k : Nat) : (plF n k).length = n + 1 := by simp [plF]

theorem range_snoc (k : Nat) : List.range' 1 (k + 1) = List.range' 1 k ++ [k + 1] := by rw [List.range'_concat]; simp; omega

/-- The loop of New by now. -/
def Made (w : World) (n B S P : Nat) (t : Value) (wr : World) : Prop :=
  ∃ (k : Nat) (v : Value), t = .int .i64 ((k : Int) + 1) ∧ k ≤ n ∧ Hp wr w.heap.size B S P v (List.replicate (n + 1) 0) (List.range' 1 k) (plF n k) ∧ Below w.heap.size w wr

set_option maxRecDepth 100000 in
set_option maxHeartbeats 1600000 in
theorem new_is (w : World) (n : Nat) (hn : n ≤ 65536) :
    Calls Try.prog 8 #[.int .i64 (n : Int)] w fun e w' => ∃ B S P v, e = .returned (.pointer (some ⟨B, 0, none⟩)) ∧
      Hp w' w.heap.size B S P v (List.replicate (n + 1) 0) (List.range' 1 n) (List.range (n + 1)) ∧ Below w.heap.size w w' := by
  have m1 := make_ints (n + 1) (by omega) ((n : Int) + 1) (by simp)
  have m2 := make_u64s (n + 1) (by omega) ((n : Int) + 1) (by simp)
  go_enter Try.func8, Try.ntmps8
  go_wp2
  go_region
  all_goals clear m1 m2
  · have hb0 : Below w.heap.size w (((w.alloc (.cells (us (n + 1)) 28)).alloc (.cells (zs (n + 1)) 3)).alloc (.cells #[.slice (some ⟨w.heap.size, 0, none⟩) (n + 1) (n + 1), .slice none 0 0, .slice (some ⟨w.heap.size + 1, 0, none⟩) (n + 1) (n + 1)] 44)).drew :=
      below_draws ((((Below.refl _ _).alloc (Nat.le_refl _) _).alloc (by simp) _).alloc (by simp; omega) _) 1
    have H0 := Lib.hid (hp_made1 w n hn).drew
    have HB0 := Lib.hid hb0
    clear hb0
    go_wp2
    go_loopw [4] (fun t wr => Made w n (w.heap.size + 1 + 1) (w.heap.size) (w.heap.size + 1) t wr) (fun t _ => n + 1 - (intOf t).toNat)
    case atStart => exact ⟨0, .slice none 0 0, rfl, by omega, by rw [plF_zero]; exact H0.out, HB0.out⟩
    case round =>
      obtain ⟨k, v, rfl, hk, hh, hb⟩ := hrel
      clear H0 HB0
      have HB := Lib.hid hb
      have hbs := hb.size
      clear hb
      by_cases hlt : k < n
      · obtain ⟨A, c, hv⟩ := hh.slice
        rw [List.length_range'] at hv
        subst hv
        have b1 := cells_get hh.head 1 (v := .slice A k c) rfl
        have f1 := cells_free hh.head 1
        have lB := lt_of_heap hh.head
        have hown := hh.own
        rw [List.length_range'] at hown
        have Hown := Lib.hid hown
        have HH := Lib.hid hh
        have hs1 : k ≤ 200000 := by omega
        have hs2 : w.heap.size ≤ (wr.alloc (.cells #[.int .i64 ((k : Int) + 1)] 3)).heap.size := by simp; omega
        have HHd := Lib.hid (heap_below hh.head ((Below.refl _ _).alloc (Nat.le_refl _) (.cells #[.int .i64 ((k : Int) + 1)] 3)))
        have hapB := own_apart hh.own hh.head (by decide)
        clear hh hown
        go_wp2_with (at_builtin; refine app_int (W := wr.alloc (.cells #[.int .i64 ((k : Int) + 1)] 3)) (base := w.heap.size) (xs := i64s (List.range' 1 k)) ((k : Int) + 1) (.tmp 25) (.tmp 27) rfl rfl rfl (Hown.out.alloc _) rfl (heap_alloc_new wr _) hs1 hs2 ?_; intro gg cap w3 hown3 hgrow3 hat3 hlt3; have h3 := heap_grown HHd.out hgrow3 (Ne.symm hapB); have d1 := cells_get h3 1 (v := .slice A k c) rfl; have e1 := cells_free h3 1; have l3 := lt_of_heap h3; have h4 := HH.out.grow (x := k + 1) (by simp) hown3 hgrow3 hat3; have b2 := cells_get h4.head 2 (v := .slice (some ⟨w.heap.size + 1, 0, none⟩) (plF n k).length (plF n k).length) rfl; rw [plF_len] at b2; have pa := h4.place_cell (at_get (show k + 1 < (plF n k).length by rw [plF_len]; omega)); have ga := cells_free h4.place (k + 1); have H4 := Lib.hid h4; have HG := Lib.hid hgrow3; have HAT := Lib.hid hat3; clear h3 h4 hown3 hgrow3 hat3 b1 f1 lB)
        go_roundw
        case rel =>
          have h5 := H4.out.set_place (j := k + 1) (u := k + 1) (x := (k : Int) + 1) (by simp)
          rw [plF_set, ← range_snoc] at h5
          have t0 : Touch wr wr (fun i => w.heap.size ≤ i) := Touch.refl _ _
          have t1 := (t0.alloc (.cells #[.int .i64 ((k : Int) + 1)] 3)).trans (Touch.of_grown (S := fun i => w.heap.size ≤ i) HG.out (fun i e => (Hown.out.lt i e).1)) (fun _ _ h => h)
          have t2 := (t1.set (w.heap.size + 1 + 1) 1 (.slice (some ⟨gg, 0, none⟩) (k + 1) cap) (by omega)).set (w.heap.size + 1) (k + 1) (.int .i64 ((k : Int) + 1)) (by omega)
          exact ⟨k + 1, _, by first | rfl | go_num, by omega, h5, Touch.belows HB.out t2 (Nat.le_refl _) (fun i h => h)⟩
        case measure => simp [intOf]; omega
      · go_wp2
        go_ret
        obtain rfl : k = n := by omega
        exact ⟨_, _, _, v, rfl, by rw [← plF_all k]; exact hh, HB.out⟩
  · have hb0 : Below w.heap.size w (((w.alloc (.cells (zs (n + 1)) 3)).alloc (.cells (us (n + 1)) 28)).alloc (.cells #[.slice (some ⟨w.heap.size + 1, 0, none⟩) (n + 1) (n + 1), .slice none 0 0, .slice (some ⟨w.heap.size, 0, none⟩) (n + 1) (n + 1)] 44)).drew :=
      below_draws ((((Below.refl _ _).alloc (Nat.le_refl _) _).alloc (by simp) _).alloc (by simp; omega) _) 1
    have H0 := Lib.hid (hp_made2 w n hn).drew
    have HB0 := Lib.hid hb0
    clear hb0
    go_wp2
    go_loopw [4] (fun t wr => Made w n (w.heap.size + 1 + 1) (w.heap.size + 1) (w.heap.size) t wr) (fun t _ => n + 1 - (intOf t).toNat)
    case atStart => exact ⟨0, .slice none 0 0, rfl, by omega, by rw [plF_zero]; exact H0.out, HB0.out⟩
    case round =>
      obtain ⟨k, v, rfl, hk, hh, hb⟩ := hrel
      clear H0 HB0
      have HB := Lib.hid hb
      have hbs := hb.size
      clear hb
      by_cases hlt : k < n
      · obtain ⟨A, c, hv⟩ := hh.slice
        rw [List.length_range'] at hv
        subst hv
        have b1 := cells_get hh.head 1 (v := .slice A k c) rfl
        have f1 := cells_free hh.head 1
        have lB := lt_of_heap hh.head
        have hown := hh.own
        rw [List.length_range'] at hown
        have Hown := Lib.hid hown
        have HH := Lib.hid hh
        have hs1 : k ≤ 200000 := by omega
        have hs2 : w.heap.size ≤ (wr.alloc (.cells #[.int .i64 ((k : Int) + 1)] 3)).heap.size := by simp; omega
        have HHd := Lib.hid (heap_below hh.head ((Below.refl _ _).alloc (Nat.le_refl _) (.cells #[.int .i64 ((k : Int) + 1)] 3)))
        have hapB := own_apart hh.own hh.head (by decide)
        clear hh hown
        go_wp2_with (at_builtin; refine app_int (W := wr.alloc (.cells #[.int .i64 ((k : Int) + 1)] 3)) (base := w.heap.size) (xs := i64s (List.range' 1 k)) ((k : Int) + 1) (.tmp 25) (.tmp 27) rfl rfl rfl (Hown.out.alloc _) rfl (heap_alloc_new wr _) hs1 hs2 ?_; intro gg cap w3 hown3 hgrow3 hat3 hlt3; have h3 := heap_grown HHd.out hgrow3 (Ne.symm hapB); have d1 := cells_get h3 1 (v := .slice A k c) rfl; have e1 := cells_free h3 1; have l3 := lt_of_heap h3; have h4 := HH.out.grow (x := k + 1) (by simp) hown3 hgrow3 hat3; have b2 := cells_get h4.head 2 (v := .slice (some ⟨w.heap.size, 0, none⟩) (plF n k).length (plF n k).length) rfl; rw [plF_len] at b2; have pa := h4.place_cell (at_get (show k + 1 < (plF n k).length by rw [plF_len]; omega)); have ga := cells_free h4.place (k + 1); have H4 := Lib.hid h4; have HG := Lib.hid hgrow3; have HAT := Lib.hid hat3; clear h3 h4 hown3 hgrow3 hat3 b1 f1 lB)
        go_roundw
        case rel =>
          have h5 := H4.out.set_place (j := k + 1) (u := k + 1) (x := (k : Int) + 1) (by simp)
          rw [plF_set, ← range_snoc] at h5
          have t0 : Touch wr wr (fun i => w.heap.size ≤ i) := Touch.refl _ _
          have t1 := (t0.alloc (.cells #[.int .i64 ((k : Int) + 1)] 3)).trans (Touch.of_grown (S := fun i => w.heap.size ≤ i) HG.out (fun i e => (Hown.out.lt i e).1)) (fun _ _ h => h)
          have t2 := (t1.set (w.heap.size + 1 + 1) 1 (.slice (some ⟨gg, 0, none⟩) (k + 1) cap) (by omega)).set (w.heap.size) (k + 1) (.int .i64 ((k : Int) + 1)) (by omega)
          exact ⟨k + 1, _, by first | rfl | go_num, by omega, h5, Touch.belows HB.out t2 (Nat.le_refl _) (fun i h => h)⟩
        case measure => simp [intOf]; omega
      · go_wp2
        go_ret
        obtain rfl : k = n := by omega
        exact ⟨_, _, _, v, rfl, by rw [← plF_all k]; exact hh, HB.out⟩

end Go.Proofs.Ytnapkgnbkkilgaa.Hp
