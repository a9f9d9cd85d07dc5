/- The search by steps from a place. -/
import Derived.Test.YtiimhndiifojnaaOrAlong
import Derived.Deep.DeepCutAuto
namespace Go.Proofs.Ytiimhndiifojnaa.Or
open Go.RowKit

theorem bounds_i64' {n : Int} (h : (Lit.int .i64 n).wf = true) : -9223372036854775808 ≤ n ∧ n ≤ 9223372036854775807 := by
  simp [Lit.wf, IntKind.min, IntKind.max, IntKind.bits, IntKind.signed] at h; omega

/-- What a search is answered with: nothing, for no way leads back; or a way round. -/
def BackPost (w : World) (n : Nat) (Ln : Nat → Nat) (Z : Nat → Nat → Int) (fr : Nat) (e : Ending) (w' : World) : Prop :=
  Below w.heap.size w w' ∧ ((e = .returned (.slice none 0 0) ∧ ¬ Way n Ln Z fr fr) ∨ ∃ v l C, e = .returned v ∧ Cyc n Ln Z l ∧ nth l 0 = fr ∧ Queue w' w.heap.size C v l)

theorem Queue.base {w : World} {base base' C : Nat} {v : Value} {l : List Nat} (h : Queue w base C v l) (hb : base' ≤ base) : Queue w base' C v l := by
  obtain ⟨g, off, cap, e, h1, h⟩ := h
  exact ⟨g, off, cap, e, by omega, h⟩

theorem Queue.open' {w : World} {base C : Nat} {v : Value} {l : List Nat} (h : Queue w base C v l) : ∃ g off L cap, v = .slice (some ⟨g, off, none⟩) L cap ∧ L = l.length ∧ L ≤ cap ∧ cap ≤ maxLen ∧ ∀ j, j < L → w.cell? ⟨g, off + j, none⟩ = some (.int .i64 (nth l j : Int)) := by
  obtain ⟨g, off, cap, e, _, _, _, h4, h5, _, h7⟩ := h
  exact ⟨g, off, _, cap, e, rfl, h4, h5, fun j hj => h7 j _ (i64s_get hj)⟩

theorem drop_cons {l : List Nat} {m : Nat} (h : m < l.length) : l.drop m = nth l m :: l.drop (m + 1) := by
  rw [List.drop_eq_getElem_cons h]; congr 1; unfold nth; simp [List.getD_eq_getElem?_getD, h]

/-- The search in memory. -/
structure Mem (w0 wr : World) (CB n : Nat) (Ln : Nat → Nat) (Z : Nat → Nat → Int) (fr : Nat) (tl cm : List Nat) (m k d : Nat) (wk : Value) : Prop where
  bfs : Bfs n Ln Z fr tl cm m k
  queue : Queue wr w0.heap.size CB wk ((fr :: tl).drop d)
  came : wr.heap[CB]? = some (.cells (i64s cm).toArray 3 (0, 0))
  bel : Below w0.heap.size w0 wr
  least : w0.heap.size ≤ CB

theorem mem_start {w : World} {n fr : Nat} {Ln : Nat → Nat} {Z : Nat → Nat → Int} (hf : fr < n) :
    Mem w ((w.alloc (.cells (i64s (List.replicate n 0)).toArray 3)).alloc (.cells #[.int .i64 (fr : Int)] 3)) w.heap.size n Ln Z fr [] (List.replicate n 0) 0 0 0 (.slice (some ⟨w.heap.size + 1, 0, none⟩) 1 1) := by
  have hq := queue_one (w := w.alloc (.cells (i64s (List.replicate n 0)).toArray 3)) (C := w.heap.size) fr (by simp)
  rw [show (w.alloc (.cells (i64s (List.replicate n 0)).toArray 3)).heap.size = w.heap.size + 1 by simp] at hq
  refine ⟨bfs_start hf, hq.base (by omega), ?_, ((Below.refl _ _).alloc (Nat.le_refl _) _).alloc (by simp) _, Nat.le_refl _⟩
  exact heap_below (heap_alloc_new w _) ((Below.refl _ _).alloc (Nat.le_refl _) _)

theorem Mem.cell {w0 wr : World} {CB n fr m k d : Nat} {Ln : Nat → Nat} {Z : Nat → Nat → Int} {tl cm : List Nat} {wk : Value} (h : Mem w0 wr CB n Ln Z fr tl cm m k d wk) {x : Nat} (hx : x < n) : wr.cell? ⟨CB, x, none⟩ = some (.int .i64 (nth cm x : Int)) :=
  cells_get h.came x (by have := h.bfs.len; simpa using i64s_get (by omega))

theorem Mem.visit {w0 wr w1 : World} {CB n fr m k t p : Nat} {Ln : Nat → Nat} {Z : Nat → Nat → Int} {tl cm : List Nat} {wk v' : Value} (h : Mem w0 wr CB n Ln Z fr tl cm m k (m + 1) wk) (hm : m < tl.length + 1) (hk : k < Ln (nth (fr :: tl) m)) (hf : t ≠ fr) (ht : t < n) (hz : Z (nth (fr :: tl) m) k = (t : Int)) (h0 : nth cm t = 0)
    (hp : nth (fr :: tl) m = p) (o : Obj) (hq : Queue w1 w0.heap.size CB v' ((fr :: tl).drop (m + 1) ++ [t])) (htt : Touch ((wr.setCell ⟨CB, t, none⟩ (.int .i64 ((p : Int) + 1))).alloc o) w1 (fun i => w0.heap.size ≤ i ∧ i ≠ CB)) :
    Mem w0 w1 CB n Ln Z fr (tl ++ [t]) (cm.set t (p + 1)) m (k + 1) (m + 1) v' := by
  have hb := h.bfs.visit hm hk hf ht hz h0
  rw [hp] at hb
  refine ⟨hb, ?_, ?_, ?_, h.least⟩
  · have e : (fr :: (tl ++ [t])).drop (m + 1) = (fr :: tl).drop (m + 1) ++ [t] := by
      simp only [List.drop_succ_cons]
      rw [List.drop_append_of_le_length (by omega)]
    rw [e]; exact hq
  · have h1 := cells_set h.came t (.int .i64 ((p : Int) + 1))
    have h2 := heap_below h1 ((Below.refl _ _).alloc (Nat.le_refl _) o)
    have h3 := heap_touch h2 htt (by simp)
    rw [h3]
    simp [i64s]
  · refine Touch.belows ((Touch.belows h.bel (((Touch.refl wr (fun i => i = CB)).set CB t (.int .i64 ((p : Int) + 1)) rfl).alloc o) (Nat.le_refl _) (fun i hi => by rw [hi]; exact h.least))) htt (Nat.le_refl _) (fun i hi => hi.1)

set_option maxHeartbeats 3200000 in
theorem wayBack_any (w : World) (b off n cap : Nat) (Ln : Nat → Nat) (Z : Nat → Nat → Int) (hn : n ≤ 1000) (hE : Rows2 w b off n Ln Z) (fr : Nat) (hf : fr < n) :
    Calls Try.prog 9 #[.slice (some ⟨b, off, none⟩) n cap, .int .i64 (fr : Int)] w (BackPost w n Ln Z fr) := by
  have HE := Lib.hid hE
  have HM0 := Lib.hid (mem_start (w := w) (Ln := Ln) (Z := Z) hf)
  clear hE
  have mk := make_ints n (by omega) (n : Int) rfl
  go_enter Try.func9, Try.ntmps9
  go_wp2
  clear mk
  go_loopg [6] n (fun g wk wr => ∃ m tl cm, m + g = n ∧ Mem w wr w.heap.size n Ln Z fr tl cm m 0 m wk)
  case atStart => exact ⟨0, [], _, by omega, HM0.out⟩
  case round =>
    clear HM0
    obtain ⟨m, tl, cm, hg, hM⟩ := hrel
    obtain ⟨g, o, L, cp, rfl, hL, h1, h2, hq⟩ := hM.queue.open'
    unfold maxLen at h2
    have hLe : L + m = tl.length + 1 := by
      have := hM.bfs.bound
      rw [hL]; simp; omega
    have HM := Lib.hid hM
    clear hL hM
    by_cases hlt : 0 < L
    · obtain ⟨p, hp⟩ : ∃ p, nth (fr :: tl) m = p := ⟨_, rfl⟩
      have hm : m < tl.length + 1 := by omega
      have hdc := drop_cons (l := fr :: tl) (m := m) (by simpa using hm)
      have c0 := hq 0 hlt
      rw [Nat.add_zero, hdc, show nth (nth (fr :: tl) m :: (fr :: tl).drop (m + 1)) 0 = p by rw [← hp]; rfl] at c0
      have hpn : p < n := by rw [← hp]; exact HM.out.bfs.all_lt _ (nth_mem (by simpa using hm))
      have HQT : Hid (Queue wr w.heap.size w.heap.size (.slice (some (if cp = 1 then ⟨g, o, none⟩ else ⟨g, o + 1, none⟩)) ((fr :: tl).drop (m + 1)).length (cp - 1)) ((fr :: tl).drop (m + 1))) := by
        have := HM.out.queue
        rw [hdc] at this
        exact Lib.hid this.tail
      have hL1 : ((fr :: tl).drop (m + 1)).length = L - 1 := by simp; omega
      rw [hL1] at HQT
      have HP := Lib.hid hp
      clear hq hdc hL1 hp hLe
      have hmn : m < n := by have := HM.out.bfs.few; omega
      go_upto_region 5 with fail
      clear c0
      go_cut [6] (fun wk wx => wx = wr ∧ Queue wr w.heap.size w.heap.size wk ((fr :: tl).drop (m + 1)))
      case first =>
        by_cases hc1 : cp = 1
        · subst hc1
          have hL1 : L = 1 := by omega
          subst hL1
          go_wp2
          go_meet
          exact ⟨rfl, HQT.out⟩
        · rw [if_neg hc1] at HQT
          go_wp2
          go_meet
          exact ⟨rfl, HQT.out⟩
      case rest =>
        clear HQT
        obtain ⟨rfl, hq1⟩ := hcut
        obtain ⟨q1, q2, x, c, q3, q4, q5⟩ := HE.out p hpn
        have q3 := (HM.out.bel.cell (p := ⟨b, off + p, none⟩) q2).trans q3
        have Q5 := Lib.hid q5
        have HQ1 := Lib.hid hq1
        have HG := Lib.hid hg
        unfold maxLen at q1
        clear q5 hq1 hg
        obtain ⟨D, hD⟩ : ∃ D, Ln p = D := ⟨_, rfl⟩
        rw [hD] at q1 q3 q4
        have HD := Lib.hid hD
        clear hD
        go_wp2
        clear q3
        go_loopw [6, 28] (fun wk i wr => ∃ (k : Nat) (tl cm : List Nat), i = .int .i64 (k : Int) ∧ k ≤ D ∧ m < tl.length + 1 ∧ nth (fr :: tl) m = p ∧ Mem w wr w.heap.size n Ln Z fr tl cm m k (m + 1) wk) (fun _ i _ => D - (intOf i).toNat)
        case atStart => exact ⟨0, tl, cm, rfl, by omega, hm, HP.out, ⟨HM.out.bfs, HQ1.out, HM.out.came, HM.out.bel, HM.out.least⟩⟩
        case round =>
          clear HM HP HQ1 hm
          obtain ⟨k, tl, cm, rfl, hk, hm, hp, hM⟩ := hrel
          have HP := Lib.hid hp
          have HM := Lib.hid hM
          clear hp hM
          by_cases hkd : k < D
          · obtain ⟨z1, bb, oo, rfl, z2, z3⟩ := Q5.out k (by rw [HD.out]; exact hkd)
            obtain ⟨z, hz⟩ : ∃ z, Z p k = z := ⟨_, rfl⟩
            rw [hz] at z1 z3
            obtain ⟨y1, y2⟩ := bounds_i64' z1
            have HZ := Lib.hid hz
            have z3 := (HM.out.bel.cell (p := ⟨bb, oo + k, none⟩) z2).trans z3
            clear z1 hz
            by_cases hzf : z = (fr : Int)
            · subst hzf
              go_wp2_with fail
              refine (along_any wr w.heap.size n fr m k Ln Z tl cm hn HM.out.came HM.out.bfs hm (by rw [HP.out, HD.out]; exact hkd) (by rw [HP.out]; exact HZ.out) (p : Int) (by rw [HP.out])).mono ?_
              rintro e w2 ⟨v, l, rfl, hcy, hl0, hq2, hb2⟩
              have HCY := Lib.hid hcy
              have HL0 := Lib.hid hl0
              have HQ2 := Lib.hid hq2
              have HB2 := Lib.hid hb2
              clear hcy hl0 hq2 hb2
              go_wp2
              go_ret
              have hbw := HM.out.bel
              exact ⟨hbw.trans (HB2.out.mono hbw.size), .inr ⟨v, l, _, rfl, HCY.out, HL0.out, HQ2.out.base hbw.size⟩⟩
            · by_cases hz0 : z < 0
              · have g1 : ¬ (z = (fr : Int)) := hzf
                go_wp2
                go_roundw
                case rel => exact ⟨k + 1, tl, cm, by first | rfl | go_num, hkd, hm, HP.out, ⟨HM.out.bfs.skip (by rw [HP.out, HZ.out]; exact hzf) (fun t _ e => by rw [HP.out, HZ.out] at e; omega), HM.out.queue, HM.out.came, HM.out.bel, HM.out.least⟩⟩
                case measure => simp [intOf]; omega
              · by_cases hzn : (n : Int) ≤ z
                · have g1 : ¬ (z = (fr : Int)) := hzf
                  go_wp2
                  go_roundw
                  case rel => exact ⟨k + 1, tl, cm, by first | rfl | go_num, hkd, hm, HP.out, ⟨HM.out.bfs.skip (by rw [HP.out, HZ.out]; exact hzf) (fun t _ e => by rw [HP.out, HZ.out] at e; omega), HM.out.queue, HM.out.came, HM.out.bel, HM.out.least⟩⟩
                  case measure => simp [intOf]; omega
                · obtain ⟨t, rfl⟩ : ∃ t : Nat, z = (t : Int) := ⟨z.toNat, by omega⟩
                  have htn : t < n := by omega
                  have htf : t ≠ fr := fun e => hzf (by rw [e])
                  have ct := HM.out.cell htn
                  obtain ⟨y, hy⟩ : ∃ y, nth cm t = y := ⟨_, rfl⟩
                  rw [hy] at ct
                  have HY := Lib.hid hy
                  have g1 : ¬ ((t : Int) = (fr : Int)) := hzf
                  clear hy hz0 hzn hzf
                  by_cases hy0 : y = 0
                  · subst hy0
                    have ct : wr.cell? ⟨w.heap.size, t, none⟩ = some (.int .i64 0) := ct
                    have cf := cells_free HM.out.came t
                    have HS := Lib.hid (show ((fr :: tl).drop (m + 1)).length ≤ 100000 by have := HM.out.bfs.few; simp; omega)
                    have HQT : Hid (Queue ((wr.setCell ⟨w.heap.size, t, none⟩ (.int .i64 ((p : Int) + 1))).alloc (.cells #[.int .i64 (t : Int)] 3)) w.heap.size w.heap.size u6 ((fr :: tl).drop (m + 1))) :=
                      Lib.hid (HM.out.queue.touch (S := fun i => i = w.heap.size) (((Touch.refl _ (fun i => i = w.heap.size)).set _ _ _ rfl).alloc _) (fun i hi => .inl hi))
                    have hws := HM.out.bel.size
                    have hCs := lt_of_heap HM.out.came
                    have HP' := HP.out
                    go_wp2_with (at_builtin; refine wpList_append_q rfl _ _ rfl rfl rfl HQT.out (by simp; omega) (by simp; omega) HS.out t wr.heap.size rfl ?_ ?_)
                    · exact fun j y hj => by
                        have := one_news (w := wr.setCell ⟨w.heap.size, t, none⟩ (.int .i64 ((p : Int) + 1))) (e := 3) j y hj
                        simpa using this
                    · intro v' w1 hq1 ht1
                      have HQ1 := Lib.hid hq1
                      have HT1 := Lib.hid ht1
                      clear hq1 ht1 ct cf
                      go_wp2
                      go_roundw
                      case rel => exact ⟨k + 1, tl ++ [t], cm.set t (p + 1), by first | rfl | go_num, hkd, by simp; omega, by rw [← HP.out, ← List.cons_append]; exact nth_append_left (by simpa using hm), HM.out.visit hm (by rw [HP.out, HD.out]; exact hkd) htf htn (by rw [HP.out]; exact HZ.out) HY.out HP.out _ HQ1.out HT1.out⟩
                      case measure => simp [intOf]; omega
                  · have hsk : ∀ t' : Nat, t' < n → Z (nth (fr :: tl) m) k = (t' : Int) → nth cm t' ≠ 0 := fun t' _ e => by
                      rw [HP.out, HZ.out] at e
                      have e' : t' = t := by omega
                      rw [e', HY.out]; exact hy0
                    have HSK := Lib.hid hsk
                    clear hsk
                    have g2 : ¬ ((y : Int) = 0) := by omega
                    go_wp2
                    go_roundw
                    case rel => exact ⟨k + 1, tl, cm, by first | rfl | go_num, hkd, hm, HP.out, ⟨HM.out.bfs.skip (by rw [HP.out, HZ.out]; exact fun e => htf (by omega)) HSK.out, HM.out.queue, HM.out.came, HM.out.bel, HM.out.least⟩⟩
                    case measure => simp [intOf]; omega
          · have hkD : k = D := by omega
            subst hkD
            go_wp2
            go_roundg (gk - 1)
            case measure => have := HG.out; omega
            case rel => exact ⟨m + 1, tl, cm, by have := HG.out; omega, ⟨HM.out.bfs.row_done hm (by rw [HP.out, HD.out]; omega), HM.out.queue, HM.out.came, HM.out.bel, HM.out.least⟩⟩
    · have hL0 : L = 0 := by omega
      subst hL0
      clear hg
      go_wp2
      go_ret
      exact ⟨HM.out.bel, .inl ⟨rfl, HM.out.bfs.none (by omega)⟩⟩

end Go.Proofs.Ytiimhndiifojnaa.Or
