/- The chapter's example, and a nil heap. -/
import Derived.Test.YtnapkgnbkkilgaaHpNew
namespace Go.Proofs.Ytnapkgnbkkilgaa.Hp
open Go.RowKit

theorem Hp.still {w0 w w' : World} {base B S P : Nat} {v : Value} {sc row pl : List Nat} {F : Nat → Prop} (h : Hp w base B S P v sc row pl) (ht : Touch w w' F) (hF : ∀ i, F i → i = B ∨ i = S ∨ i = P ∨ v.ownBlock = some i) (hb : Below base w0 w) (h0 : base ≤ w0.heap.size) : Below base w0 w' :=
  Touch.belows hb ht h0 (fun i hi => by
    rcases hF i hi with e | e | e | e
    · rw [e]; exact h.least.1
    · rw [e]; exact h.least.2.1
    · rw [e]; exact h.least.2.2
    · exact (h.own.lt i e).1)

theorem ex_up : upF [0, 0, 5, 0] [1, 2, 3] [0, 1, 2, 3] 2 = ([2, 1, 3], [0, 2, 1, 3]) := by
  rw [upF, dif_pos (by decide), upF, dif_neg (by decide)]; rfl
theorem ex_pop1 : popRow [0, 0, 5, 0] [2, 1, 3] [0, 2, 1, 3] = ([1, 3], [0, 1, 0, 2]) := by
  unfold popRow; rw [downF, dif_neg (by decide), downF, dif_pos (by decide)]; rfl
theorem ex_pop2 : popRow [0, 0, 5, 0] [1, 3] [0, 1, 0, 2] = ([3], [0, 0, 0, 1]) := by
  unfold popRow; rw [downF, dif_pos (by decide)]; rfl
theorem ex_pop3 : popRow [0, 0, 5, 0] [3] [0, 0, 0, 1] = ([], [0, 0, 0, 0]) := by
  unfold popRow; rw [downF, dif_pos (by decide)]; rfl

set_option maxRecDepth 100000 in
set_option maxHeartbeats 1600000 in
theorem fixed_any (w : World) :
    Calls Try.prog 7 #[] w fun e w' => e = .returned (.bool true) ∧ Below w.heap.size w w' := by
  go_enter Try.func7, Try.ntmps7
  go_wp2_with fail
  refine (new_is _ 3 (by omega)).mono ?_
  rintro e w1 ⟨B, S, P, v, rfl, h1, hb1⟩
  have H1 := Lib.hid (show Hp w1 w.heap.size B S P v [0, 0, 0, 0] [1, 2, 3] [0, 1, 2, 3] from h1)
  have HB1 := Lib.hid hb1
  clear h1 hb1
  go_wp2_with fail
  refine (bump_is _ w.heap.size B S P v _ _ _ H1.out ⟨by decide, by decide⟩ 2 2 0 5 rfl rfl (by omega) (by decide) (by omega) (by decide)).mono ?_
  rintro e w2 ⟨rfl, h2, t2⟩
  rw [if_pos (by omega), if_pos (by omega)] at h2
  have h2' : Hp w2 w.heap.size B S P v [0, 0, 5, 0] [2, 1, 3] [0, 2, 1, 3] := by
    have e : (upF [0, 0, 5, 0] [1, 2, 3] [0, 1, 2, 3] 2) = ([2, 1, 3], [0, 2, 1, 3]) := ex_up
    have h3 : Hp w2 w.heap.size B S P v [0, 0, 5, 0] (upF [0, 0, 5, 0] [1, 2, 3] [0, 1, 2, 3] 2).1 (upF [0, 0, 5, 0] [1, 2, 3] [0, 1, 2, 3] 2).2 := h2
    rw [e] at h3
    exact h3
  have HB2 := Lib.hid (H1.out.still t2 (fun i h => .inr h) HB1.out (Nat.le_refl _))
  have H2 := Lib.hid h2'
  clear h2 h2' t2
  go_wp2_with fail
  refine (pop_is _ w.heap.size B S P v _ _ _ H2.out ⟨by decide, by decide⟩ (by decide) (by decide)).mono ?_
  rintro e w3 ⟨rfl, v3, h3, -, t3⟩
  rw [ex_pop1] at h3
  have HB3 := Lib.hid (H2.out.still t3 (fun i h => by rcases h with h | h | h; exact .inl h; exact .inr (.inr (.inl h)); exact .inr (.inr (.inr h))) HB2.out (Nat.le_refl _))
  have H3 := Lib.hid h3
  clear h3 t3
  go_wp2_with fail
  refine (pop_is _ w.heap.size B S P v3 _ _ _ H3.out ⟨by decide, by decide⟩ (by decide) (by decide)).mono ?_
  rintro e w4 ⟨rfl, v4, h4, -, t4⟩
  simp only [ex_pop2] at h4
  have HB4 := Lib.hid (H3.out.still t4 (fun i h => by rcases h with h | h | h; exact .inl h; exact .inr (.inr (.inl h)); exact .inr (.inr (.inr h))) HB3.out (Nat.le_refl _))
  have H4 := Lib.hid h4
  clear h4 t4
  go_wp2_with fail
  refine (pop_is _ w.heap.size B S P v4 _ _ _ H4.out ⟨by decide, by decide⟩ (by decide) (by decide)).mono ?_
  rintro e w5 ⟨rfl, v5, h5, -, t5⟩
  simp only [ex_pop3] at h5
  have HB5 := Lib.hid (H4.out.still t5 (fun i h => by rcases h with h | h | h; exact .inl h; exact .inr (.inr (.inl h)); exact .inr (.inr (.inr h))) HB4.out (Nat.le_refl _))
  have H5 := Lib.hid h5
  clear h5 t5
  go_wp2_with fail
  refine (pop_none _ w.heap.size B S P v5 _ _ H5.out).mono ?_
  rintro e w6 ⟨rfl, rfl⟩
  go_wp2
  go_ret
  exact ⟨rfl, HB5.out⟩

set_option maxRecDepth 100000 in
set_option maxHeartbeats 800000 in
theorem heapNil_any (n : Int) (_wn : (Lit.int .i64 n).wf = true) (b : Int) (_wb : (Lit.int .u64 b).wf = true) (w : World) :
    Calls Try.prog 5 #[.int .i64 n, .int .u64 b] w fun e w' => e = .returned (.bool true) ∧ Below w.heap.size w w' := by
  go_enter Try.func5, Try.ntmps5
  go_wp2_with fail
  refine (bump_nil _ _ _).mono ?_
  rintro e w1 ⟨rfl, rfl⟩
  go_wp2_with fail
  refine (halve_nil _).mono ?_
  rintro e w1 ⟨rfl, rfl⟩
  go_wp2_with fail
  refine (fixed_any _).mono ?_
  rintro e w1 ⟨rfl, hb⟩
  have HB := Lib.hid hb
  clear hb
  go_wp2_with fail
  refine (push_nil _ _).mono ?_
  rintro e w2 ⟨rfl, rfl⟩
  go_wp2_with fail
  refine (pop_nil _).mono ?_
  rintro e w2 ⟨rfl, rfl⟩
  go_wp2_with fail
  refine (has_nil _ _).mono ?_
  rintro e w2 ⟨rfl, rfl⟩
  go_wp2_with fail
  refine (len_nil _).mono ?_
  rintro e w2 ⟨rfl, rfl⟩
  go_wp2_with fail
  refine (score_nil _ _).mono ?_
  rintro e w2 ⟨rfl, rfl⟩
  go_wp2
  go_ret
  exact ⟨rfl, HB.out⟩

end Go.Proofs.Ytnapkgnbkkilgaa.Hp
