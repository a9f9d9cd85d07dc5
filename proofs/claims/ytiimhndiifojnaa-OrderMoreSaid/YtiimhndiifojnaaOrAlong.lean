/- The way back along where each place was met from. -/
import Derived.Test.YtiimhndiifojnaaOrKit
namespace Go.Proofs.Ytiimhndiifojnaa.Or
open Go.RowKit

/-- What a search is answered with: nothing, for no way leads back; or a way round. -/
def AlongPost (w : World) (CB n : Nat) (Ln : Nat → Nat) (Z : Nat → Nat → Int) (fr : Nat) (e : Ending) (w' : World) : Prop :=
  ∃ v l, e = .returned v ∧ Cyc n Ln Z l ∧ nth l 0 = fr ∧ Queue w' w.heap.size CB v l ∧ Below w.heap.size w w'

theorem cell_came {w wr : World} {CB : Nat} {cm : List Nat} (h : w.heap[CB]? = some (.cells (i64s cm).toArray 3 (0, 0))) (hb : Below w.heap.size w wr) {x : Nat} (hx : x < cm.length) : wr.cell? ⟨CB, x, none⟩ = some (.int .i64 (nth cm x : Int)) :=
  cells_get (heap_below h hb) x (by simpa using i64s_get hx)

theorem queue_one {w : World} {C : Nat} (x : Nat) (hC : C < w.heap.size) : Queue (w.alloc (.cells #[.int .i64 (x : Int)] 3)) w.heap.size C (.slice (some ⟨w.heap.size, 0, none⟩) 1 1) [x] :=
  ⟨w.heap.size, 0, 1, rfl, Nat.le_refl _, by omega, by simp, by simp, by simp [maxLen], fun j hj => by
    obtain rfl : j = 0 := by omega
    exact ⟨by rw [(cell_new_l w _ _).1]; rfl, (cell_new_l w _ _).2⟩, fun j u hu => by
    match j, hu with
    | 0, hu => simp [i64s] at hu; subst hu; exact (cell_new_l w _ _).1⟩

theorem queue_len {w : World} {base C : Nat} {v : Value} {l : List Nat} (h : Queue w base C v l) : ∃ g off cap, v = .slice (some ⟨g, off, none⟩) l.length cap := by
  obtain ⟨g, off, cap, e, _⟩ := h; exact ⟨g, off, cap, e⟩

set_option maxHeartbeats 800000 in
theorem along_any (w : World) (CB n fr m k : Nat) (Ln : Nat → Nat) (Z : Nat → Nat → Int) (tl cm : List Nat) (hn : n ≤ 1000) (hc : w.heap[CB]? = some (.cells (i64s cm).toArray 3 (0, 0))) (hb : Bfs n Ln Z fr tl cm m k)
    (hm : m < tl.length + 1) (hk : k < Ln (nth (fr :: tl) m)) (hz : Z (nth (fr :: tl) m) k = (fr : Int)) (x0 : Int) (hx0 : x0 = (nth (fr :: tl) m : Int)) :
    Calls Try.prog 16 #[.slice (some ⟨CB, 0, none⟩) n n, .int .i64 (fr : Int), .int .i64 x0] w (AlongPost w CB n Ln Z fr) := by
  subst hx0
  have HC := Lib.hid hc
  have HB := Lib.hid hb
  have HZ := Lib.hid hz
  have HK := Lib.hid hk
  have hCB := lt_of_heap hc
  clear hc hb hz hk
  obtain ⟨x, hx⟩ : ∃ x, nth (fr :: tl) m = x := ⟨_, rfl⟩
  have hq0 := queue_one (w := w) x hCB
  have ha0 : Along Ln Z fr tl m [x] m := by have := along_start (Ln := Ln) (Z := Z) (fr := fr) hm; rwa [hx] at this
  have HX := Lib.hid hx
  have HQ := Lib.hid hq0
  have HA := Lib.hid ha0
  rw [hx]
  clear hx hq0 ha0
  go_enter Try.func16, Try.ntmps16
  go_wp2
  go_loopg [2, 7] m (fun g t o wr => ∃ (x : Nat) (ol : List Nat), t = .int .i64 (x : Int) ∧ nth (fr :: tl) g = x ∧ Along Ln Z fr tl m ol g ∧ Queue wr w.heap.size CB o ol ∧ Below w.heap.size w wr)
  case atStart => exact ⟨x, [x], rfl, HX.out, HA.out, HQ.out, (Below.refl _ _).alloc (Nat.le_refl _) _⟩
  case round =>
    clear HX HQ HA
    obtain ⟨x, ol, rfl, hx, ha, hq, hbw⟩ := hrel
    have HX := Lib.hid hx
    have HQ := Lib.hid hq
    have HA := Lib.hid ha
    have HW := Lib.hid hbw
    clear hx hq ha hbw
    by_cases he : x = fr
    · subst he
      go_wp2_with fail
      refine (reverse_q HQ.out (by have := HA.out.few HB.out; omega)).mono ?_
      rintro e w2 ⟨rfl, hq2, ht2⟩
      have HQ2 := Lib.hid hq2
      have HT2 := Lib.hid ht2
      clear hq2 ht2
      go_wp2
      go_ret
      refine ⟨_, ol.reverse, rfl, HA.out.cyc HB.out HX.out HK.out HZ.out, ?_, HQ2.out, Touch.belows HW.out HT2.out (Nat.le_refl _) (fun i hi => hi.1)⟩
      rw [nth_reverse HA.out.pos, Nat.sub_zero, HA.out.last, HX.out]
    · obtain ⟨j, hj, hcj, hnext⟩ := HA.out.next HB.out (by rw [HX.out]; exact he)
      rw [HX.out] at hcj
      have hxn : x < n := by rw [← HX.out]; exact HB.out.all_lt _ (nth_mem (by have := HA.out.lt; simpa using this))
      have hcell := cell_came HC.out HW.out (x := x) (by rw [HB.out.len]; exact hxn)
      obtain ⟨y, hy⟩ : ∃ y, nth (fr :: tl) j = y := ⟨_, rfl⟩
      rw [hy] at hcj hnext
      rw [hcj] at hcell
      have g1 : ¬ ((x : Int) = (fr : Int)) := by omega
      have hyn : y < 1000 := by rw [← hy]; exact Nat.lt_of_lt_of_le (HB.out.all_lt _ (nth_mem (by have := hnext.lt; simpa using this))) hn
      have HY := Lib.hid hy
      have HN := Lib.hid hnext
      have HS := Lib.hid (show ol.length ≤ 100000 by have := HA.out.few HB.out; omega)
      clear hcj hy hnext he
      have hsz := HW.out.size
      go_wp2_with (at_builtin; refine wpList_append_q rfl _ _ rfl rfl rfl (HQ.out.touch (S := fun _ => False) ((Touch.refl _ _).alloc _) (fun _ h => h.elim)) (by simp; omega) (by simp; omega) HS.out y wr.heap.size rfl ?_ ?_)
      · exact one_news
      · intro v' w1 hq1 ht1
        have HQ1 := Lib.hid hq1
        have HT1 := Lib.hid ht1
        clear hq1 ht1 hcell
        go_wp2
        go_roundg j
        case measure => exact hj
        case rel => exact ⟨y, ol ++ [y], by first | rfl | go_num, HY.out, HN.out, HQ1.out, Touch.belows (HW.out.alloc (by omega) _) HT1.out (Nat.le_refl _) (fun i hi => hi.1)⟩

end Go.Proofs.Ytiimhndiifojnaa.Or
