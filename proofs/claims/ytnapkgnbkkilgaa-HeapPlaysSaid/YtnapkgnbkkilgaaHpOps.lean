/- The walks of a heap's small calls, of Bump, Push and Pop. -/
import Derived.Test.YtnapkgnbkkilgaaHpDown
namespace Go.Proofs.Ytnapkgnbkkilgaa.Hp
open Go.RowKit

set_option maxHeartbeats 400000 in
theorem is_no (w : World) (base B S P : Nat) (v : Value) (sc row pl : List Nat) (h : Hp w base B S P v sc row pl) (x : Int) (hx : x < 1 ∨ (sc.length : Int) ≤ x) :
    Calls Try.prog 17 #[.pointer (some ⟨B, 0, none⟩), .int .i64 x] w fun e w' => e = .returned (.bool false) ∧ w = w' := by
  have b0 := cells_get h.head 0 (v := .slice (some ⟨S, 0, none⟩) sc.length sc.length) rfl
  clear h
  by_cases h1 : 0 < x
  · have h2 : (sc.length : Int) ≤ x := by omega
    clear hx
    go_enter Try.func17, Try.ntmps17
    have h3 : ¬ x < (sc.length : Int) := by omega
    go_wp2
    go_ret
    exact ⟨by simp, rfl⟩
  · clear hx
    go_enter Try.func17, Try.ntmps17
    go_wp2
    go_ret
    exact ⟨rfl, rfl⟩

set_option maxHeartbeats 400000 in
theorem is_yes (w : World) (base B S P : Nat) (v : Value) (sc row pl : List Nat) (h : Hp w base B S P v sc row pl) (x : Int) (h1 : 1 ≤ x) (h2 : x < (sc.length : Int)) :
    Calls Try.prog 17 #[.pointer (some ⟨B, 0, none⟩), .int .i64 x] w fun e w' => e = .returned (.bool true) ∧ w = w' := by
  have b0 := cells_get h.head 0 (v := .slice (some ⟨S, 0, none⟩) sc.length sc.length) rfl
  have h3 : 0 < x := by omega
  clear h
  go_enter Try.func17, Try.ntmps17
  go_wp2
  go_ret
  exact ⟨rfl, rfl⟩

set_option maxHeartbeats 400000 in
theorem is_nil (w : World) (x : Int) :
    Calls Try.prog 17 #[.pointer none, .int .i64 x] w fun e w' => e = .returned (.bool false) ∧ w = w' := by
  go_enter Try.func17, Try.ntmps17
  go_wp2
  go_ret
  exact ⟨rfl, rfl⟩

set_option maxHeartbeats 400000 in
theorem has_nil (w : World) (x : Int) :
    Calls Try.prog 14 #[.pointer none, .int .i64 x] w fun e w' => e = .returned (.bool false) ∧ w = w' := by
  go_enter Try.func14, Try.ntmps14
  go_wp2_with (go_at_call 17; refine (is_nil _ _).mono ?_; rintro e w1 ⟨rfl, rfl⟩)
  go_ret
  exact ⟨rfl, rfl⟩

set_option maxHeartbeats 400000 in
theorem has_no (w : World) (base B S P : Nat) (v : Value) (sc row pl : List Nat) (h : Hp w base B S P v sc row pl) (x : Int) (hx : x < 1 ∨ (sc.length : Int) ≤ x) :
    Calls Try.prog 14 #[.pointer (some ⟨B, 0, none⟩), .int .i64 x] w fun e w' => e = .returned (.bool false) ∧ w = w' := by
  have H := Lib.hid h
  have HX := Lib.hid hx
  clear h hx
  go_enter Try.func14, Try.ntmps14
  go_wp2_with (go_at_call 17; refine (is_no _ base B S P v sc row pl H.out _ HX.out).mono ?_; rintro e w1 ⟨rfl, rfl⟩)
  go_ret
  exact ⟨rfl, rfl⟩

set_option maxHeartbeats 400000 in
theorem has_yes (w : World) (base B S P : Nat) (v : Value) (sc row pl : List Nat) (h : Hp w base B S P v sc row pl) (a z : Nat) (ha : pl[a]? = some z) (h1 : 1 ≤ a) (r : Bool) (hr : decide (0 < z) = r) :
    Calls Try.prog 14 #[.pointer (some ⟨B, 0, none⟩), .int .i64 (a : Int)] w fun e w' => e = .returned (.bool r) ∧ w = w' := by
  subst hr
  have b2 := cells_get h.head 2 (v := .slice (some ⟨P, 0, none⟩) pl.length pl.length) rfl
  have pa := h.place_cell ha
  have la := lt_get ha
  have i1 : (0 : Int) ≤ (a : Int) := by omega
  have i2 : (a : Int) < (pl.length : Int) := by omega
  have few := h.few
  have hs : (a : Int) < (sc.length : Int) := by rw [← h.same]; exact i2
  have H := Lib.hid h
  have HS := Lib.hid hs
  clear h ha hs
  go_enter Try.func14, Try.ntmps14
  go_wp2_with (go_at_call 17; refine (is_yes _ base B S P v sc row pl H.out _ (by omega) HS.out).mono ?_; rintro e w1 ⟨rfl, rfl⟩)
  go_ret
  exact ⟨by simp, rfl⟩

set_option maxHeartbeats 400000 in
theorem len_is (w : World) (base B S P : Nat) (v : Value) (sc row pl : List Nat) (h : Hp w base B S P v sc row pl) :
    Calls Try.prog 16 #[.pointer (some ⟨B, 0, none⟩)] w fun e w' => e = .returned (.int .i64 row.length) ∧ w = w' := by
  obtain ⟨A, c, rfl⟩ := h.slice
  have b1 := cells_get h.head 1 (v := .slice A row.length c) rfl
  clear h
  go_enter Try.func16, Try.ntmps16
  go_wp2
  go_ret
  exact ⟨rfl, rfl⟩

set_option maxHeartbeats 400000 in
theorem len_nil (w : World) : Calls Try.prog 16 #[.pointer none] w fun e w' => e = .returned (.int .i64 0) ∧ w = w' := by
  go_enter Try.func16, Try.ntmps16
  go_wp2
  go_ret
  exact ⟨rfl, rfl⟩

set_option maxHeartbeats 400000 in
theorem score_nil (w : World) (x : Int) : Calls Try.prog 15 #[.pointer none, .int .i64 x] w fun e w' => e = .returned (.int .u64 0) ∧ w = w' := by
  go_enter Try.func15, Try.ntmps15
  go_wp2_with (go_at_call 17; refine (is_nil _ _).mono ?_; rintro e w1 ⟨rfl, rfl⟩)
  go_ret
  exact ⟨rfl, rfl⟩

set_option maxHeartbeats 400000 in
theorem pop_nil (w : World) : Calls Try.prog 13 #[.pointer none] w fun e w' => e = .returned (.int .i64 0) ∧ w = w' := by
  go_enter Try.func13, Try.ntmps13
  go_wp2_with (go_at_call 16; refine (len_nil _).mono ?_; rintro e w1 ⟨rfl, rfl⟩)
  go_ret
  exact ⟨rfl, rfl⟩

set_option maxHeartbeats 400000 in
theorem push_nil (w : World) (x : Int) : Calls Try.prog 11 #[.pointer none, .int .i64 x] w fun e w' => e = .returned (.bool false) ∧ w = w' := by
  go_enter Try.func11, Try.ntmps11
  go_wp2_with (go_at_call 17; refine (is_nil _ _).mono ?_; rintro e w1 ⟨rfl, rfl⟩)
  go_ret
  exact ⟨rfl, rfl⟩

set_option maxHeartbeats 400000 in
theorem halve_nil (w : World) : Calls Try.prog 10 #[.pointer none] w fun e w' => e = .returned (.tuple #[]) ∧ w = w' := by
  go_enter Try.func10, Try.ntmps10
  go_wp2
  refine bodyPost_ret (results_none rfl _ _ _) rfl ?_
  exact ⟨rfl, rfl⟩

set_option maxHeartbeats 400000 in
theorem bump_nil (w : World) (x y : Int) : Calls Try.prog 9 #[.pointer none, .int .i64 x, .int .u64 y] w fun e w' => e = .returned (.tuple #[]) ∧ w = w' := by
  go_enter Try.func9, Try.ntmps9
  go_wp2_with (go_at_call 17; refine (is_nil _ _).mono ?_; rintro e w1 ⟨rfl, rfl⟩)
  refine bodyPost_ret (results_none rfl _ _ _) rfl ?_
  exact ⟨rfl, rfl⟩

/-! Bump, where nothing is halved. -/
theorem u64s_set (l : List Nat) (j a : Nat) : u64s (l.set j a) = (u64s l).set j (.int .u64 (a : Int)) := by simp [u64s]

theorem Hp.set_score {w : World} {base B S P j u : Nat} {v : Value} {sc row pl : List Nat} (h : Hp w base B S P v sc row pl) {x : Int} (hx : x = u) :
    Hp (w.setCell ⟨S, j, none⟩ (.int .u64 x)) base B S P v (sc.set j u) row pl := by
  subst hx
  have hBS : B ≠ S := by
    rintro rfl; have := h.head; rw [h.score] at this; injection this with this; injection this with _ ht; exact absurd ht (by decide)
  have hPS : P ≠ S := by
    rintro rfl; have := h.place; rw [h.score] at this; injection this with this; injection this with _ ht; exact absurd ht (by decide)
  have hap := own_apart h.own h.score (by decide)
  refine ⟨?_, ?_, heap_set_far h.place hPS, own_touch h.own (Touch.of_grown (S := fun i => i = S) (grown_set _ _ _ _) (fun i e => by cases e; rfl)) (fun g e e2 => hap (e2 ▸ e)), h.apart, by simpa using h.same, by simpa using h.few, h.least⟩
  · rw [List.length_set]; exact heap_set_far h.head hBS
  · have := cells_set h.score j (.int .u64 (u : Int))
    rw [this, u64s_set]; simp

def Foot (S P : Nat) (v : Value) (i : Nat) : Prop := i = S ∨ i = P ∨ v.ownBlock = some i

set_option maxRecDepth 100000 in
set_option maxHeartbeats 800000 in
theorem bump_is (w : World) (base B S P : Nat) (v : Value) (sc row pl : List Nat) (h : Hp w base B S P v sc row pl) (hv : Valid sc row) (a z s by' : Nat) (ha : pl[a]? = some z) (hs : sc[a]? = some s) (h1 : 1 ≤ a)
    (hz : z ≤ row.length) (hb : s + by' ≤ 4611686018427387904) (hr : row.length ≤ 65536) :
    Calls Try.prog 9 #[.pointer (some ⟨B, 0, none⟩), .int .i64 (a : Int), .int .u64 (by' : Int)] w fun e w' => e = .returned (.tuple #[]) ∧
      Hp w' base B S P v (sc.set a (s + by')) (if 0 < z then (upF (sc.set a (s + by')) row pl z).1 else row) (if 0 < z then (upF (sc.set a (s + by')) row pl z).2 else pl) ∧ Touch w w' (Foot S P v) := by
  have b0 := cells_get h.head 0 (v := .slice (some ⟨S, 0, none⟩) sc.length sc.length) rfl
  have sa := h.score_cell hs
  have fa := cells_free h.score a
  have few := h.few
  have la := lt_get hs
  have i1 : (0 : Int) ≤ (a : Int) := by omega
  have i2 : (a : Int) < (sc.length : Int) := by omega
  have g1 : (by' : Int) ≤ 4611686018427387904 := by omega
  have g2 : (s : Int) ≤ 4611686018427387904 - (by' : Int) := by omega
  have H := Lib.hid h
  have HA := Lib.hid ha
  have HZ := Lib.hid hz
  clear h ha hs hz hb
  go_enter Try.func9, Try.ntmps9
  go_wp2_with fail
  refine (is_yes _ base B S P v sc row pl H.out _ (by omega) i2).mono ?_
  rintro e w1 ⟨rfl, rfl⟩
  go_wp2
  go_loop [2] (fun t => t = .int .u64 (by' : Int)) (fun _ => 0)
  case atStart => rfl
  case round =>
    obtain rfl := hrel
    have HS := Lib.hid (H.out.set_score (j := a) (u := s + by') (x := (s : Int) + (by' : Int)) (by simp))
    by_cases h0 : 0 < z
    · go_wp2_with fail
      refine (has_yes _ base B S P v _ row pl HS.out a z HA.out h1 true (by simpa using h0)).mono ?_
      rintro e w1 ⟨rfl, rfl⟩
      have b2 := cells_get HS.out.head 2 (v := .slice (some ⟨P, 0, none⟩) pl.length pl.length) rfl
      have pa := HS.out.place_cell HA.out
      have i5 : (a : Int) < (pl.length : Int) := by have := lt_get HA.out; omega
      go_wp2_with fail
      refine (up_is _ base B S P v _ row pl HS.out ⟨fun x hx => by simpa using hv.1 x hx, hv.2⟩ z h0 HZ.out hr).mono ?_
      rintro e w2 ⟨rfl, h2, t2⟩
      have H2 := Lib.hid h2
      have T2 := Lib.hid t2
      clear h2 t2
      go_wp2
      go_end0
      refine ⟨rfl, by first | exact H2.out | (rw [if_pos h0, if_pos h0]; exact H2.out), ?_⟩
      have t0 : Touch w w (Foot S P v) := Touch.refl _ _
      exact (t0.set S a _ (.inl rfl)).trans T2.out (fun i _ h => .inr h)
    · go_wp2_with fail
      refine (has_yes _ base B S P v _ row pl HS.out a z HA.out h1 false (by simpa using h0)).mono ?_
      rintro e w1 ⟨rfl, rfl⟩
      go_wp2
      go_end0
      refine ⟨rfl, by first | exact HS.out | (rw [if_neg h0, if_neg h0]; exact HS.out), ?_⟩
      have t0 : Touch w w (Foot S P v) := Touch.refl _ _
      exact t0.set S a _ (.inl rfl)

/-! Pop. -/
theorem own_cut {w : World} {base n g c : Nat} {e : TypeId} {xs : List Value} (h : w.ownsRow base e 1 (.slice (some ⟨g, 0, none⟩) (n + 1) c) (n + 1) xs) :
    w.ownsRow base e 1 (.slice (some ⟨g, 0, none⟩) n c) n xs.dropLast := by
  obtain ⟨h1, h2⟩ := h
  refine ⟨by rw [List.length_dropLast, h1]; omega, ?_⟩
  rcases h2 with ⟨h2, _⟩ | ⟨g', cap, cur, hv, hb, hh, hr1, hr2, hr3, hr4⟩
  · cases h2
  · cases hv
    refine .inr ⟨g, c, cur, rfl, hb, hh, by omega, hr2, hr3, ?_⟩
    rw [← hr4]
    simp only [Nat.mul_one] at hr3 ⊢
    rw [List.dropLast_eq_take, List.take_take, List.length_take]
    congr 1
    simp [hr3]
    omega

theorem own_cap {w : World} {base g m c size : Nat} {e : TypeId} {xs : List Value} (h : w.ownsRow base e size (.slice (some ⟨g, 0, none⟩) m c) m xs) : m ≤ c ∧ c ≤ maxLen := by
  rcases h.2 with ⟨h2, _⟩ | ⟨g', cap, cur, hv, hb, hh, hr1, hr2, hr3, hr4⟩
  · cases h2
  · cases hv
    exact ⟨hr1, hr2⟩

theorem i64s_dropLast (l : List Nat) : i64s l.dropLast = (i64s l).dropLast := by simp [i64s, List.map_dropLast]

theorem Hp.cut {w : World} {base B S P R c n : Nat} {sc row pl : List Nat} (h : Hp w base B S P (.slice (some ⟨R, 0, none⟩) (n + 1) c) sc row pl) (hn : row.length = n + 1) :
    Hp (w.setCell ⟨B, 1, none⟩ (.slice (some ⟨R, 0, none⟩) n c)) base B S P (.slice (some ⟨R, 0, none⟩) n c) sc row.dropLast pl := by
  have hBS : S ≠ B := by
    rintro rfl; have := h.head; rw [h.score] at this; injection this with this; injection this with _ ht; exact absurd ht (by decide)
  have hBP : P ≠ B := by
    rintro rfl; have := h.head; rw [h.place] at this; injection this with this; injection this with _ ht; exact absurd ht (by decide)
  have hRB := own_apart h.own h.head (by decide)
  have ho := h.own
  rw [hn] at ho
  have ho2 := own_cut ho
  rw [← i64s_dropLast] at ho2
  refine ⟨cells_set h.head 1 _, heap_set_far h.score hBS, heap_set_far h.place hBP, ?_, h.apart, h.same, h.few, h.least⟩
  rw [List.length_dropLast, hn, Nat.add_sub_cancel]
  exact own_touch ho2 (Touch.of_grown (S := fun i => i = B) (grown_set _ _ _ _) (fun i e => by cases e; rfl)) (fun g e e2 => hRB (by rw [← e2, ← e]; rfl))

set_option maxRecDepth 100000 in
set_option maxHeartbeats 1600000 in
theorem pop_none (w : World) (base B S P : Nat) (v : Value) (sc pl : List Nat) (h : Hp w base B S P v sc [] pl) :
    Calls Try.prog 13 #[.pointer (some ⟨B, 0, none⟩)] w fun e w' => e = .returned (.int .i64 0) ∧ w = w' := by
  have H := Lib.hid h
  clear h
  go_enter Try.func13, Try.ntmps13
  go_wp2_with (go_at_call 16; refine (len_is _ base B S P v sc [] pl H.out).mono ?_; rintro e w1 ⟨rfl, rfl⟩)
  go_ret
  exact ⟨rfl, rfl⟩

def popRow (sc row pl : List Nat) : List Nat × List Nat := downF sc (swR row 0 (row.length - 1)).dropLast ((swP row pl 0 (row.length - 1)).set (at' row 0) 0) 1

set_option maxRecDepth 100000 in
set_option maxHeartbeats 1600000 in
theorem pop_is (w : World) (base B S P : Nat) (v : Value) (sc row pl : List Nat) (h : Hp w base B S P v sc row pl) (hv : Valid sc row) (h1 : 1 ≤ row.length) (hr : row.length ≤ 65536) :
    Calls Try.prog 13 #[.pointer (some ⟨B, 0, none⟩)] w fun e w' => e = .returned (.int .i64 (at' row 0 : Nat)) ∧
      ∃ v', Hp w' base B S P v' sc (popRow sc row pl).1 (popRow sc row pl).2 ∧ v'.ownBlock = v.ownBlock ∧ Touch w w' (fun i => i = B ∨ i = P ∨ v.ownBlock = some i) := by
  obtain ⟨R, c, rfl⟩ := h.slice' (at_get h1)
  obtain ⟨n, hn⟩ : ∃ n, row.length = n + 1 := ⟨row.length - 1, by omega⟩
  have b1 := cells_get h.head 1 (v := .slice (some ⟨R, 0, none⟩) row.length c) rfl
  have r0 := h.row_cell (at_get h1)
  have H := Lib.hid h
  clear h
  go_enter Try.func13, Try.ntmps13
  go_wp2_with fail
  refine (len_is _ base B S P _ sc row pl H.out).mono ?_
  rintro e w1 ⟨rfl, rfl⟩
  go_wp2_with fail
  refine (swap_at _ base B S P _ sc row pl H.out hv 0 n (by omega) (by omega) hr _ _ (by simp) (by omega)).mono ?_
  rintro e w2 ⟨rfl, h2, t2⟩
  have e1 : row.length - 1 = n := by omega
  have l1 : at' row 0 < sc.length := hv.at_lt h1
  have l2 : (swR row 0 n).length = n + 1 := by rw [swR_length, hn]
  have b1' := cells_get h2.head 1 (v := .slice (some ⟨R, 0, none⟩) row.length c) rfl
  rw [hn] at b1' h2
  have f1 := cells_free h2.head 1
  have H2 := Lib.hid h2
  have T2 := Lib.hid t2
  have HV2 := Lib.hid (hv.swap (p := 0) (q := n) (by omega) (by omega))
  have L2 := Lib.hid l2
  have E1 := Lib.hid e1
  have HN := Lib.hid hn
  have n1 : n ≤ 65535 := by omega
  have hcap : n + 1 ≤ c ∧ c ≤ maxLen := by have := H2.out.own; rw [L2.out] at this; exact own_cap this
  obtain ⟨hc1, hc2⟩ := hcap
  unfold maxLen at hc2
  have i1 : (0 : Int) ≤ (n : Int) := by omega
  have i2 : (n : Int) ≤ (c : Int) := by omega
  have wn : IntKind.i64.wrap (n : Int) = (n : Int) := IntWalk.i64_in _ (by omega)
  clear h2 t2 b1 r0 hn l2 e1 hv h1 hr
  go_wp2_with fail
  go_still_tail 14, (by kernel_rfl)
  change wpList _ _ _ _ _ w2.drew
  have H3 := Lib.hid (H2.out.cut L2.out)
  have b2 := cells_get H3.out.head 2 (v := .slice (some ⟨P, 0, none⟩) (swP row pl 0 n).length (swP row pl 0 n).length) rfl
  have la : at' row 0 < (swP row pl 0 n).length := by rw [swP_length, H.out.same]; exact l1
  have pa := H3.out.place_cell (at_get la)
  have ga := cells_free H3.out.place (at' row 0)
  have few := H.out.few
  have lq : (swP row pl 0 n).length ≤ 65537 := by rw [swP_length, H.out.same]; exact few
  have i3 : (0 : Int) ≤ (at' row 0 : Int) := by omega
  have i4 : (at' row 0 : Int) < ((swP row pl 0 n).length : Int) := by omega
  go_wp2_with fail
  refine (down_is _ base B S P _ sc _ _ ((H3.out.drew).set_place (j := at' row 0) (u := 0) rfl) ⟨fun x hx => HV2.out.1 x ((List.dropLast_sublist _).subset hx), HV2.out.2.sublist (List.dropLast_sublist _)⟩ 1 (by omega) (by omega) (by rw [List.length_dropLast, L2.out]; omega)).mono ?_
  rintro e w4 ⟨rfl, h4, t4⟩
  have H4 := Lib.hid h4
  have T4 := Lib.hid t4
  clear h4 t4
  go_wp2
  go_ret
  refine ⟨rfl, .slice (some ⟨R, 0, none⟩) n c, by unfold popRow; rw [E1.out]; exact H4.out, rfl, ?_⟩
  have t0 : Touch w w2 (fun i => i = B ∨ i = P ∨ (Value.slice (some ⟨R, 0, none⟩) row.length c).ownBlock = some i) := T2.out.mono (fun i h => .inr h)
  exact ((((t0.set B 1 _ (.inl rfl)).drew).set P (at' row 0) _ (.inr (.inl rfl))).trans T4.out (fun i _ h => .inr h))

end Go.Proofs.Ytnapkgnbkkilgaa.Hp
