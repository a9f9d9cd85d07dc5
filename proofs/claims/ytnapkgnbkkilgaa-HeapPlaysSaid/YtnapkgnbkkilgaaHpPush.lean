/- Push. -/
import Derived.Test.YtnapkgnbkkilgaaHpAt
namespace Go.Proofs.Ytnapkgnbkkilgaa.Hp
open Go.RowKit

set_option maxRecDepth 100000 in
set_option maxHeartbeats 1600000 in
theorem push_no (w : World) (base B S P : Nat) (v : Value) (sc row pl : List Nat) (h : Heap w base B S P v sc row pl) (a : Nat) (ha : a ∈ row) (h1 : 1 ≤ a) (x : Int) (hx : x = a) :
    Calls Try.prog 11 #[.pointer (some ⟨B, 0, none⟩), .int .i64 x] w fun e w' => e = .returned (.bool false) ∧ w = w' := by
  subst hx
  have hs : (a : Int) < (sc.length : Int) := by have := h.2.valid.1 a ha; omega
  have hz : 0 < at' pl a := by
    obtain ⟨p, hp, e⟩ := mem_at ha
    have := h.2.pla.2.1 p hp
    rw [e] at this; omega
  have la : a < pl.length := by rw [h.2.pla.1]; omega
  have H := Lib.hid h
  clear h
  go_enter Try.func11, Try.ntmps11
  go_wp2_with fail
  refine (is_yes _ base B S P v sc row pl H.out.1 _ (by omega) hs).mono ?_
  rintro e w1 ⟨rfl, rfl⟩
  go_wp2_with fail
  refine (has_yes _ base B S P v sc row pl H.out.1 a (at' pl a) (at_get la) h1 true (by simpa using hz)).mono ?_
  rintro e w1 ⟨rfl, rfl⟩
  go_wp2
  go_ret
  exact ⟨rfl, rfl⟩

/-- What a push keeps. -/
def Pushed (w : World) (base B S P : Nat) (v : Value) (sc row : List Nat) (a : Nat) (w' : World) : Prop :=
  ∃ v' row' pl', Heap w' base B S P v' sc row' pl' ∧ row'.Perm (row ++ [a]) ∧ (v'.ownBlock = v.ownBlock ∨ ∃ g, v'.ownBlock = some g ∧ w.heap.size ≤ g) ∧ Touch w w' (fun i => i = B ∨ i = P ∨ v.ownBlock = some i)

set_option maxRecDepth 100000 in
set_option maxHeartbeats 3200000 in
theorem push_yes (w : World) (base B S P : Nat) (v : Value) (sc row pl : List Nat) (h : Heap w base B S P v sc row pl) (h0 : 0 ∉ row) (a : Nat) (ha : a ∉ row) (h1 : 1 ≤ a) (hs : a < sc.length) (x : Int) (hx : x = a) (hbase : base ≤ w.heap.size) :
    Calls Try.prog 11 #[.pointer (some ⟨B, 0, none⟩), .int .i64 x] w fun e w' => e = .returned (.bool true) ∧ Pushed w base B S P v sc row a w' := by
  subst hx
  have hs' : (a : Int) < (sc.length : Int) := by omega
  have hz : at' pl a = 0 := h.2.pla.2.2 a hs ha
  have la : a < pl.length := by rw [h.2.pla.1]; exact hs
  have hlen : row.length ≤ 65536 := h.row_le h0
  have hlen2 : row.length + 1 ≤ 65536 := by
    have hf := h.1.few
    have hn : (a :: 0 :: row).Nodup := by
      rw [List.nodup_cons, List.nodup_cons]
      refine ⟨fun hm => ?_, h0, h.2.valid.2⟩
      rcases List.mem_cons.1 hm with e | e
      · omega
      · exact ha e
    have := few_of sc.length (a :: 0 :: row) hn (fun x hx => by
      rcases List.mem_cons.1 hx with rfl | hx
      · exact hs
      · rcases List.mem_cons.1 hx with rfl | hx
        · omega
        · exact h.2.valid.1 x hx)
    simp at this
    omega
  have hpi := push_inv h.2 hs ha
  obtain ⟨A, cp, rfl⟩ := h.1.slice
  have HPI := Lib.hid hpi
  have H := Lib.hid h
  clear h hpi
  go_enter Try.func11, Try.ntmps11
  go_wp2_with fail
  refine (is_yes _ base B S P _ sc row pl H.out.1 _ (by omega) hs').mono ?_
  rintro e w1 ⟨rfl, rfl⟩
  go_wp2_with fail
  refine (has_yes _ base B S P _ sc row pl H.out.1 a (at' pl a) (at_get la) h1 false (by rw [hz]; rfl)).mono ?_
  rintro e w1 ⟨rfl, rfl⟩
  clear hz
  have b1 := cells_get H.out.1.head 1 (v := .slice A row.length cp) rfl
  have lB := lt_of_heap H.out.1.head
  have hs1 : row.length ≤ 200000 := by omega
  have hs2 : base ≤ (w.alloc (.cells #[.int .i64 (a : Int)] 3)).heap.size := by simp; omega
  have HHd := Lib.hid (heap_below H.out.1.head ((Below.refl _ _).alloc (Nat.le_refl _) (.cells #[.int .i64 (a : Int)] 3)))
  have hapB := own_apart H.out.1.own H.out.1.head (by decide)
  go_wp2_with (at_builtin; refine app_int (W := w.alloc (.cells #[.int .i64 (a : Int)] 3)) (base := base) (xs := i64s row) (a : Int) (.tmp 18) (.tmp 20) rfl rfl rfl (H.out.1.own.alloc _) rfl (heap_alloc_new w _) hs1 hs2 ?_; intro gg cap w3 hown3 hgrow3 hat3 hlt3; have h3 := heap_grown HHd.out hgrow3 (Ne.symm hapB); have d1 := cells_get h3 1 (v := .slice A row.length cp) rfl; have e1 := cells_free h3 1; have l3 := lt_of_heap h3; have HG := Lib.hid (H.out.1.grow (x := a) rfl hown3 hgrow3 hat3); have HT := Lib.hid hgrow3; have HAT := Lib.hid hat3; clear h3 hown3 hgrow3 hat3 b1 lB)
  generalize hw4 : w3.setCell ⟨B, 1, none⟩ (.slice (some ⟨gg, 0, none⟩) (row.length + 1) cap) = w4
  rw [hw4] at HG
  have t4 : Touch w w4 (fun i => i = B ∨ i = P ∨ (Value.slice A row.length cp).ownBlock = some i) := by
    have t0 : Touch w w (fun i => i = B ∨ i = P ∨ (Value.slice A row.length cp).ownBlock = some i) := Touch.refl _ _
    rw [← hw4]
    exact ((t0.alloc _).trans (Touch.of_grown (S := fun i => i = B ∨ i = P ∨ (Value.slice A row.length cp).ownBlock = some i) HT.out (fun i e => .inr (.inr e))) (fun _ _ h => h)).set B 1 _ (.inl rfl)
  have HT4 := Lib.hid t4
  clear hw4 d1 e1 l3 t4 HT HHd hapB hs2
  have c1 := cells_get HG.out.head 1 (v := .slice (some ⟨gg, 0, none⟩) (row.length + 1) cap) rfl
  have c2 := cells_get HG.out.head 2 (v := .slice (some ⟨P, 0, none⟩) pl.length pl.length) rfl
  have pa := HG.out.place_cell (at_get la)
  have ga := cells_free HG.out.place a
  have few := H.out.1.few
  have same := H.out.1.same
  have i3 : (0 : Int) ≤ (a : Int) := by omega
  have i4 : (a : Int) < (pl.length : Int) := by omega
  clear same
  have H5 := Lib.hid (HG.out.set_place (j := a) (u := row.length + 1) (x := (row.length : Int) + 1) (by simp))
  have d1 := cells_get H5.out.head 1 (v := .slice (some ⟨gg, 0, none⟩) (row.length + 1) cap) rfl
  have hv : Valid sc (row ++ [a]) := by
    refine ⟨fun x hx => ?_, ?_⟩
    · rcases List.mem_append.1 hx with hx | hx
      · exact H.out.2.valid.1 x hx
      · rw [List.mem_singleton.1 hx]; exact hs
    · rw [List.nodup_append]
      refine ⟨H.out.2.valid.2, by simp, ?_⟩
      intro x hx y hy
      rw [List.mem_singleton.1 hy]
      rintro rfl
      exact ha hx
  have HV := Lib.hid hv
  clear hv
  go_wp2_with fail
  go_still_tail 11, (by kernel_rfl)
  change wpList _ _ _ _ _ w4.drew
  go_wp2_with fail
  refine (up_is _ base B S P _ sc (row ++ [a]) _ H5.out.drew HV.out (row.length + 1) (by omega) (by simp) (by simp; omega)).mono ?_
  rintro e w6 ⟨rfl, h6, t6⟩
  have H6 := Lib.hid h6
  have T6 := Lib.hid t6
  clear h6 t6
  go_wp2
  go_ret
  refine ⟨rfl, _, _, _, ⟨H6.out, HPI.out.1⟩, HPI.out.2, ?_, ?_⟩
  · rcases HAT.out with e | e
    · exact .inl e.symm
    · exact .inr ⟨gg, rfl, by simp at e; omega⟩
  · have t5 : Touch w (w4.setCell ⟨P, a, none⟩ (.int .i64 ((row.length : Int) + 1))).drew (fun i => i = B ∨ i = P ∨ (Value.slice A row.length cp).ownBlock = some i) := (HT4.out.set P a _ (.inr (.inl rfl))).drew
    refine t5.trans T6.out (fun i hi h => ?_)
    rcases h with h | h
    · exact .inr (.inl h)
    · rcases HAT.out with e | e
      · simp only [Value.ownBlock, Option.some.injEq] at h
        subst h
        exact .inr (.inr e)
      · simp only [Value.ownBlock, Option.some.injEq] at h
        simp at e
        omega

end Go.Proofs.Ytnapkgnbkkilgaa.Hp
