/- The document puts two spans together that meet. -/
import Derived.Test.YtdijkekglaimfaaGreatDoorSsJoinG
import Derived.Test.YtdijkekglaimfaaGreatDoorRcOwnK
import Derived.Test.YtdijkekglaimfaaGreatDoorSpan12
import Derived.Deep.RegionHeld3
import Derived.Deep.RegionWith
import Derived.Deep.CutRange
import Derived.Test.YtdijkekglaimfaaGreatDoorSsGrpA
namespace Go.Proofs.YtdijkekglaimfaaGreatDoor.Ver
open Go.RowKit Rc

theorem elemSpan : Elem setK 23 31 :=
  ⟨Tryz.underlying23, ⟨.agg #[.string ⟨#[]⟩, .string ⟨#[]⟩], 32, by kernel_rfl, by rfl, by decide, by decide⟩, by decide, by
    rintro w cs x ⟨rfl, _⟩ u hu
    simp at hu
    rcases hu with rfl | rfl <;> rfl⟩
theorem own_lit {w0 w : World} {base X : Nat} {x : Spn} {e : TypeId} (h : w.heap[X]? = some (.cells #[.string x.1, .string x.2] e (0, 0))) (hb : base ≤ X) (h1 : x.1.size ≤ maxLen) (h2 : x.2.size ≤ maxLen) :
    OwnK setK e w0 w base (.slice (some ⟨X, 0, none⟩) 1 1) [x] :=
  ⟨[[.string x.1, .string x.2]], Css.one ⟨rfl, h1, h2⟩, by simp [setK], .inr ⟨X, 1, #[.string x.1, .string x.2], rfl, hb, h, Nat.le_refl _, by simp [maxLen], by simp [setK], by simp [setK]⟩⟩
/-- A row without two of its places. -/
def without (i k : Nat) (l : List Spn) : Nat → List Spn
  | 0 => []
  | n + 1 => without i k l n ++ (if n ≠ i ∧ n ≠ k then [Rc.nth l n] else [])
theorem without_succ (i k : Nat) (l : List Spn) (n : Nat) : without i k l (n + 1) = without i k l n ++ (if n ≠ i ∧ n ≠ k then [Rc.nth l n] else []) := rfl
def MergedP (l m : List Spn) (b : Bool) : Prop :=
  (b = false ∧ m = l ∧ ∀ i k, i < k → k < l.length → (Rc.nth l i).meets (Rc.nth l k) = false) ∨
  (b = true ∧ ∃ i k, i < k ∧ k < l.length ∧ (Rc.nth l i).meets (Rc.nth l k) = true ∧ m = (Rc.nth l i).join (Rc.nth l k) :: without i k l l.length)
def Merged (l : List Spn) (w : World) (e : Ending) (w' : World) : Prop := ∃ v b m, e = .returned (.tuple #[v, .bool b]) ∧ RowD setK w' v m ∧ MergedP l m b ∧ Below w.heap.size w w'
theorem join_size {a b : Spn} (ha : a.ok) (hb : b.ok) (h1 : a.1.size ≤ maxLen ∧ a.2.size ≤ maxLen) (h2 : b.1.size ≤ maxLen ∧ b.2.size ≤ maxLen) : (a.join b).1.size ≤ maxLen ∧ (a.join b).2.size ≤ maxLen := by
  rw [Spn.join_eq ha hb]
  unfold jlo jhi
  constructor <;> dsimp only <;> split
  · exact h2.1
  · exact h1.1
  · exact h2.2
  · exact h1.2
theorem without_len (i k : Nat) (l : List Spn) : ∀ n, (without i k l n).length ≤ n
  | 0 => Nat.le_refl _
  | n + 1 => by
    have := without_len i k l n
    unfold without
    rw [List.length_append]
    split <;> simp <;> omega

set_option maxRecDepth 100000 in
set_option maxHeartbeats 1600000 in
theorem merged_any (w : World) (v : Value) (l : List Spn) (h : RowD setK w v l) (ho : ∀ s ∈ l, s.ok) (hl : l.length ≤ 1000) :
    Calls Tryz.prog 31 #[v] w (Merged l w) := by
  obtain ⟨A, L, c, rfl⟩ := h.sl
  have H := Lib.hid h
  have HL := Lib.hid h.len
  have hc := h.cap
  have HO := Lib.hid ho
  have HB0 := Lib.hid (Below.refl w.heap.size w)
  have hL1000 : L ≤ 1000 := by rw [h.len]; exact hl
  clear h ho hl
  go_enter Tryz.func31, Tryz.ntmps31
  go_wp2
  go_loopw [12] (fun i wr => ∃ p : Nat, p ≤ L ∧ i = .int .i64 p ∧ Hid (∀ i k, i < p → i < k → k < L → (Rc.nth l i).meets (Rc.nth l k) = false) ∧ Hid (Below w.heap.size w wr)) (fun i _ => L - (RowKit.intOf i).toNat)
  case atStart => exact ⟨0, Nat.zero_le _, rfl, Lib.hid (fun i k h => absurd h (Nat.not_lt_zero i)), HB0⟩
  case round =>
    obtain ⟨wo, hwo⟩ : ∃ wo : World, wo = wr := ⟨_, rfl⟩
    subst hwo
    obtain ⟨p, hp, rfl, HN, HW⟩ := hrel
    by_cases hlt : p < L
    · have HLT := Lib.hid hlt
      go_wp2
      go_loopw [17] (fun i wr => ∃ q : Nat, q ≤ L ∧ i = .int .i64 q ∧ Hid (∀ k, k < q → p < k → (Rc.nth l p).meets (Rc.nth l k) = false) ∧ Hid (Below w.heap.size w wr)) (fun i _ => L - (RowKit.intOf i).toNat)
      case atStart => exact ⟨0, Nat.zero_le _, rfl, Lib.hid (fun k h => absurd h (Nat.not_lt_zero k)), HW⟩
      case round =>
        clear HW
        obtain ⟨q, hq, rfl, HQ, HW⟩ := hrel
        by_cases hlq : q < L
        · have HLQ := Lib.hid hlq
          obtain ⟨bb, off, rfl, hb', m1, m2, c0, c1⟩ := spn_at (H.out.below HW.out (Nat.le_refl _)) hlt
          obtain ⟨bb', off', e, _, n1, n2, d0, d1⟩ := spn_at (H.out.below HW.out (Nat.le_refl _)) hlq
          cases e
          obtain ⟨s, hs⟩ : ∃ s, Rc.nth l p = s := ⟨_, rfl⟩
          obtain ⟨t, ht⟩ : ∃ t, Rc.nth l q = t := ⟨_, rfl⟩
          rw [hs] at c0 c1 m1 m2
          rw [ht] at d0 d1 n1 n2
          have HSO := Lib.hid (show s.ok by rw [← hs]; exact HO.out _ (nth_mem (by rw [← HL.out]; exact hlt)))
          have HTO := Lib.hid (show t.ok by rw [← ht]; exact HO.out _ (nth_mem (by rw [← HL.out]; exact hlq)))
          have HSZ := Lib.hid (join_size HSO.out HTO.out ⟨m1, m2⟩ ⟨n1, n2⟩)
          have HS := Lib.hid hs
          have HT := Lib.hid ht
          clear hs ht m1 m2 n1 n2
          obtain ⟨alo, ahi⟩ := s
          obtain ⟨blo, bhi⟩ := t
          obtain ⟨lo, hi, r, hr⟩ : ∃ lo hi r, smeet alo ahi blo bhi = (lo, hi, r) := ⟨_, _, _, rfl⟩
          have HR := Lib.hid hr
          have HRM := Lib.hid (show Spn.meets (alo, ahi) (blo, bhi) = r by unfold Spn.meets; rw [hr])
          clear hr
          have g0 : (0 : Int) ≤ (p : Int) := by omega
          have g1 : (p : Int) < (L : Int) := by omega
          have g2 : (0 : Int) ≤ (q : Int) := by omega
          have g3 : (q : Int) < (L : Int) := by omega
          go_upto_region 7 with fail
          have HA := Lib.hid ((HW.out.alloc HW.out.size (.cells #[.string ⟨#[]⟩, .string ⟨#[]⟩] 31)).drew)
          have HZ := Lib.hid (show (wr.alloc (.cells #[.string ⟨#[]⟩, .string ⟨#[]⟩] 31)).drew.heap[wr.heap.size]? = some (.cells #[.string ⟨#[]⟩, .string ⟨#[]⟩] 31 (0, 0)) from heap_alloc_new wr _)
          go_cut [6, 7, 17] from 17 to 71 (fun _ o i wx => o = .bool r ∧ i = .int .i64 (q : Int) ∧ Hid (Below w.heap.size w wx))
          case first =>
            go_region_with (refine (refMeet_is alo ahi blo bhi lo hi r HR.out _).mono ?_; rintro e w1 ⟨rfl, h1⟩; first | (have HW1 := Lib.hid (Below.trans HA.out (h1.mono HA.out.size)); have z := heap_below HZ.out h1; have z0 := cells_get z 0 (v := .string ⟨#[]⟩) rfl; have z1 := cells_get z 1 (v := .string ⟨#[]⟩) rfl; have y0 := cells_free z 0; have y1 := cells_free z 1; clear h1 z) | (have HW1 := Lib.hid (Below.trans HW.out.drew (h1.mono HW.out.size)); clear h1))
            all_goals
              have HW2 := Lib.hid ((HW1.out.setCell (p := ⟨wr.heap.size, 0, none⟩) HW.out.size (.string lo)).setCell (p := ⟨wr.heap.size, 1, none⟩) HW.out.size (.string hi))
              go_wp2_with fail
              go_meet
              exact ⟨rfl, rfl, by first | exact HW2 | exact Lib.hid (HW1.out.alloc HW1.out.size _)⟩
          case rest =>
            obtain ⟨rfl, rfl, HW2⟩ := hcut
            clear c0 c1 d0 d1 HA HZ
            by_cases hpq : p < q
            · have t1 : ¬ (q : Int) ≤ (p : Int) := by omega
              cases r with
              | false =>
                have HQ' := Lib.hid (show ∀ k, k < q + 1 → p < k → (Rc.nth l p).meets (Rc.nth l k) = false from fun k hk hpk => by
                  by_cases e : k = q
                  · rw [e, HS.out, HT.out]; exact HRM.out
                  · exact HQ.out k (by omega) hpk)
                go_wp2
                go_roundw
                case rel => exact ⟨q + 1, by omega, by go_num, HQ', HW2⟩
                case measure => simp [RowKit.intOf]; omega
              | true =>
                have HPQ := Lib.hid hpq
                obtain ⟨bb1, off1, e, hbb, _, _, c0, c1⟩ := spn_at (H.out.below HW2.out (Nat.le_refl _)) HLT.out
                cases e
                obtain ⟨bb2, off2, e, _, _, _, d0, d1⟩ := spn_at (H.out.below HW2.out (Nat.le_refl _)) HLQ.out
                cases e
                rw [HS.out] at c0 c1
                rw [HT.out] at d0 d1
                obtain ⟨jl, jh, hj⟩ : ∃ jl jh, Spn.join (alo, ahi) (blo, bhi) = (jl, jh) := ⟨_, _, rfl⟩
                have HJ := Lib.hid hj
                have HSJ := Lib.hid (show jl.size ≤ maxLen ∧ jh.size ≤ maxLen by have := HSZ.out; rw [hj] at this; exact this)
                clear hj
                go_upto_region 9 with fail
                go_cut [8] from 17 to 71 (fun o wx => ∃ X, o = .slice (some ⟨X, 0, none⟩) 1 1 ∧ Hid (OwnK setK 31 w wx w.heap.size (.slice (some ⟨X, 0, none⟩) 1 1) [(jl, jh)]) ∧ Hid (Below w.heap.size w wx))
                case first =>
                  go_region_with (refine (refJoin_is alo ahi blo bhi jl jh HSO.out HTO.out HJ.out _).mono ?_; rintro e w1 ⟨rfl, h1⟩; have HW3 := Lib.hid (Below.trans HW2.out.drew (h1.mono HW2.out.size)); clear h1)
                  all_goals
                    go_wp2_with fail
                    go_meet
                    exact ⟨w1.heap.size, rfl, Lib.hid (own_lit (x := (jl, jh)) (heap_alloc_new w1 _) HW3.out.size HSJ.out.1 HSJ.out.2), Lib.hid (HW3.out.alloc HW3.out.size _)⟩
                case rest =>
                  obtain ⟨X, rfl, HOW, HW4⟩ := hcut
                  clear c0 c1 d0 d1
                  go_wp2
                  go_loopw [8, 51] (fun v i wr => ∃ n : Nat, n ≤ L ∧ i = .int .i64 n ∧ Hid (OwnK setK 31 w wr w.heap.size v ((jl, jh) :: without p q l n)) ∧ Hid (Below w.heap.size w wr)) (fun _ i _ => L - (RowKit.intOf i).toNat)
                  case atStart => exact ⟨0, Nat.zero_le _, rfl, HOW, HW4⟩
                  case round =>
                    clear HOW HW4
                    obtain ⟨n, hn, rfl, HOW, HW4⟩ := hrel
                    obtain ⟨Av, Lv, cv, rfl⟩ := HOW.out.sl
                    by_cases hln : n < L
                    · have hstep : n = p ∨ n = q → without p q l (n + 1) = without p q l n := fun h => by
                        rw [without_succ, if_neg (by omega), List.append_nil]
                      by_cases hnp : n = p
                      · have HOS := Lib.hid (show OwnK setK 31 w wr w.heap.size (.slice Av Lv cv) ((jl, jh) :: without p q l (n + 1)) by rw [hstep (.inl hnp)]; exact HOW.out)
                        have k1 : ((n : Int) == (p : Int)) = true := by simp [hnp]
                        have k2 : (n : Int) = (p : Int) := by omega
                        clear hstep
                        go_wp2
                        go_roundw
                        case rel => exact ⟨n + 1, by omega, by go_num, HOS, HW4⟩
                        case measure => simp [RowKit.intOf]; omega
                      have k1 : ((n : Int) == (p : Int)) = false := by simp; omega
                      have k2 : ¬ (n : Int) = (p : Int) := by omega
                      by_cases hnq : n = q
                      · have HOS := Lib.hid (show OwnK setK 31 w wr w.heap.size (.slice Av Lv cv) ((jl, jh) :: without p q l (n + 1)) by rw [hstep (.inr hnq)]; exact HOW.out)
                        have k3 : ((n : Int) == (q : Int)) = true := by simp [hnq]
                        have k4 : (n : Int) = (q : Int) := by omega
                        clear hstep
                        go_wp2
                        go_roundw
                        case rel => exact ⟨n + 1, by omega, by go_num, HOS, HW4⟩
                        case measure => simp [RowKit.intOf]; omega
                      have k3 : ((n : Int) == (q : Int)) = false := by simp; omega
                      have k4 : ¬ (n : Int) = (q : Int) := by omega
                      have k5 : ((n : Int) != (p : Int)) = true := by simp; omega
                      have k6 : ((n : Int) != (q : Int)) = true := by simp; omega
                      clear hstep
                      have HWN := Lib.hid (show (jl, jh) :: without p q l (n + 1) = ((jl, jh) :: without p q l n) ++ [Rc.nth l n] by
                        rw [without_succ, if_pos ⟨hnp, hnq⟩]; rfl)
                      have HLEN := Lib.hid (show ((jl, jh) :: without p q l n).length ≤ 99999 by have := without_len p q l n; simp; omega)
                      obtain ⟨bb3, off3, e, _, s1, s2, c0, c1⟩ := spn_at (H.out.below HW4.out (Nat.le_refl _)) hln
                      cases e
                      obtain ⟨u, hu⟩ : ∃ u, Rc.nth l n = u := ⟨_, rfl⟩
                      rw [hu] at c0 c1 s1 s2
                      have HU := Lib.hid hu
                      have HSU := Lib.hid (And.intro s1 s2)
                      clear hu s1 s2
                      obtain ⟨lo2, hi2⟩ := u
                      go_wp2_with (at_builtin; refine wpList_app_el elemSpan rfl (.tmp 62) (.tmp 67) rfl rfl (w0 := w) (base := w.heap.size) (X := wr.heap.size) (v := .slice Av Lv cv) (xs := (jl, jh) :: without p q l n) (x := (lo2, hi2)) (cs := #[.string lo2, .string hi2]) rfl rfl (HOW.out.alloc _) (heap_alloc_new wr _) ⟨rfl, HSU.out.1, HSU.out.2⟩ HLEN.out (HW4.out.alloc HW4.out.size _).size ?_; intro A5 L5 c5 w5 hown5 hg5; have HOW5 := Lib.hid hown5; have HW5 := Lib.hid ((HW4.out.alloc HW4.out.size (.cells #[.string lo2, .string hi2] 31)).grown hg5 (HW4.out.alloc HW4.out.size (.cells #[.string lo2, .string hi2] 31)).size (fun g hgg => (HOW.out.lt g hgg).1)); clear hown5 hg5)
                      go_roundw
                      case rel => exact ⟨n + 1, by omega, by go_num, Lib.hid (by rw [HWN.out, HU.out]; exact HOW5.out), HW5⟩
                      case measure => simp [RowKit.intOf]; omega
                    · obtain rfl : n = L := by omega
                      have HV := Lib.hid (show MergedP l ((jl, jh) :: without p q l n) true from .inr ⟨rfl, p, q, HPQ.out, by have := HL.out; have := HLQ.out; omega, by rw [HS.out, HT.out]; exact HRM.out, by rw [HS.out, HT.out, HJ.out, ← HL.out]⟩)
                      go_wp2
                      exact bodyPost_ret (v := .tuple #[.slice Av Lv cv, .bool true]) (by simp [results, Tryz.results31, go_sem]) rfl ⟨_, _, _, rfl, HOW.out.row HW4.out, HV.out, HW4.out⟩
            · have t1 : (q : Int) ≤ (p : Int) := by omega
              have HQ' := Lib.hid (show ∀ k, k < q + 1 → p < k → (Rc.nth l p).meets (Rc.nth l k) = false from fun k hk hpk => by omega)
              go_wp2
              go_roundw
              case rel => exact ⟨q + 1, by omega, by go_num, HQ', HW2⟩
              case measure => simp [RowKit.intOf]; omega
        · obtain rfl : q = L := by omega
          have HN' := Lib.hid (show ∀ i k, i < p + 1 → i < k → k < q → (Rc.nth l i).meets (Rc.nth l k) = false from fun i k hi hik hk => by
            by_cases e : i = p
            · subst e; exact HQ.out k hk hik
            · exact HN.out i k (by omega) hik hk)
          go_wp2
          go_roundw
          case rel => exact ⟨p + 1, by omega, by go_num, HN', HW⟩
          case measure => simp [RowKit.intOf]; omega
    · obtain rfl : p = L := by omega
      have HV := Lib.hid (show MergedP l l false from .inl ⟨rfl, rfl, fun i k hik hk => HN.out i k (by have := HL.out; omega) hik (by have := HL.out; omega)⟩)
      go_wp2
      exact bodyPost_ret (v := .tuple #[.slice A p c, .bool false]) (by simp [results, Tryz.results31, go_sem]) rfl ⟨_, _, _, rfl, H.out.below HW.out (Nat.le_refl _), HV.out, HW.out⟩
end Go.Proofs.YtdijkekglaimfaaGreatDoor.Ver

/- What the document's merging leaves: plain mathematics. -/
namespace Go.Proofs.YtdijkekglaimfaaGreatDoor.Ver
open Go.RowKit Rc Ss

theorem mem_without {i k : Nat} {l : List Spn} {x : Spn} : ∀ {n : Nat}, x ∈ without i k l n ↔ ∃ j, j < n ∧ j ≠ i ∧ j ≠ k ∧ x = Rc.nth l j
  | 0 => ⟨fun h => (by cases h), fun ⟨j, hj, _⟩ => absurd hj (Nat.not_lt_zero j)⟩
  | n + 1 => by
    rw [without_succ, List.mem_append, mem_without]
    constructor
    · rintro (⟨j, h1, h2, h3, h4⟩ | h)
      · exact ⟨j, by omega, h2, h3, h4⟩
      · by_cases hn : n ≠ i ∧ n ≠ k
        · rw [if_pos hn] at h
          exact ⟨n, by omega, hn.1, hn.2, List.mem_singleton.1 h⟩
        · rw [if_neg hn] at h; cases h
    · rintro ⟨j, h1, h2, h3, h4⟩
      by_cases e : j = n
      · subst e
        exact .inr (by rw [if_pos ⟨h2, h3⟩]; exact List.mem_singleton.2 h4)
      · exact .inl ⟨j, by omega, h2, h3, h4⟩
theorem mem_nth {l : List Spn} {x : Spn} : x ∈ l ↔ ∃ j, j < l.length ∧ x = Rc.nth l j := by
  constructor
  · intro h
    obtain ⟨j, hj, e⟩ := List.mem_iff_getElem.1 h
    exact ⟨j, hj, by rw [Rc.nth_lt hj, e]⟩
  · rintro ⟨j, hj, rfl⟩
    exact Rc.nth_mem hj
theorem without_len2 {i k : Nat} {l : List Spn} (hik : i < k) : ∀ {n : Nat}, k < n → (without i k l n).length + 2 = n
  | n + 1, h => by
    have one : ∀ {n : Nat}, i < n → n ≤ k → (without i k l n).length + 1 = n := by
      intro n
      induction n with
      | zero => intro h; omega
      | succ n ih =>
        intro h1 h2
        rw [without_succ, List.length_append]
        by_cases e : n = i
        · have z : ∀ {m : Nat}, m ≤ i → (without i k l m).length = m := by
            intro m
            induction m with
            | zero => intro _; rfl
            | succ m ih2 =>
              intro hm
              rw [without_succ, List.length_append, if_pos ⟨by omega, by omega⟩, ih2 (by omega)]; rfl
          rw [z (by omega), if_neg (by omega)]; simp
        · rw [if_pos ⟨e, by omega⟩]
          have := ih (by omega) (by omega)
          simp; omega
    rw [without_succ, List.length_append]
    by_cases e : n = k
    · rw [if_neg (by omega)]
      have := one (n := n) (by omega) (by omega)
      simp; omega
    · have := without_len2 (l := l) hik (n := n) (by omega)
      rw [if_pos ⟨by omega, e⟩]
      simp; omega
theorem merged_true {l m : List Spn} (h : MergedP l m true) (ho : spanSp.Oks l) : spanSp.Same l m ∧ spanSp.Oks m ∧ m.length + 1 = l.length := by
  rcases h with ⟨h, _⟩ | ⟨_, i, k, hik, hk, hm, rfl⟩
  · cases h
  have oi : spanSp.ok (Rc.nth l i) := ho _ (Rc.nth_mem (by omega))
  have ok : spanSp.ok (Rc.nth l k) := ho _ (Rc.nth_mem hk)
  refine ⟨Sp.Same.trans (.of_mem (G := Rc.nth l i :: Rc.nth l k :: without i k l l.length) fun s => ?_) (Sp.Same.merge oi ok hm), fun s hs => ?_, ?_⟩
  · rw [List.mem_cons, List.mem_cons, mem_without]
    constructor
    · intro h
      obtain ⟨j, hj, rfl⟩ := mem_nth.1 h
      by_cases e1 : j = i
      · exact .inl (by rw [e1])
      · by_cases e2 : j = k
        · exact .inr (.inl (by rw [e2]))
        · exact .inr (.inr ⟨j, hj, e1, e2, rfl⟩)
    · rintro (rfl | rfl | ⟨j, hj, _, _, rfl⟩)
      · exact Rc.nth_mem (by omega)
      · exact Rc.nth_mem hk
      · exact Rc.nth_mem hj
  · rcases List.mem_cons.1 hs with rfl | hs
    · exact spanSp.ok_join oi ok hm
    · obtain ⟨j, hj, _, _, rfl⟩ := mem_without.1 hs
      exact ho _ (Rc.nth_mem hj)
  · have := without_len2 (l := l) hik hk
    simp; omega
theorem merged_false {l m : List Spn} (h : MergedP l m false) : m = l ∧ l.Pairwise spanSp.Apart := by
  rcases h with ⟨_, rfl, h⟩ | ⟨h, _⟩
  · refine ⟨rfl, List.pairwise_iff_getElem.2 fun i j hi hj hij => ?_⟩
    have := h i j hij hj
    rw [Rc.nth_lt hi, Rc.nth_lt hj] at this
    exact this
  · cases h
end Go.Proofs.YtdijkekglaimfaaGreatDoor.Ver

/- The form of a set; what is in it; what two sets have in common: plain mathematics. -/
namespace Go.Proofs.YtdijkekglaimfaaGreatDoor.Ver
open Go.RowKit Rc Ss

open Classical in
noncomputable def form (l : List Spn) : List Spn × Bool := if h : spanSp.Oks l ∧ ∃ m, spanSp.Canon l m ∧ m.length ≤ 16 then (h.2.choose, true) else ([], false)
theorem form_is {l m : List Spn} (ho : spanSp.Oks l) (h : spanSp.Canon l m) (hl : m.length ≤ 16) : form l = (m, true) := by
  have hh : spanSp.Oks l ∧ ∃ m, spanSp.Canon l m ∧ m.length ≤ 16 := ⟨ho, m, h, hl⟩
  unfold form
  rw [dif_pos hh, hh.2.choose_spec.1.unique h (.refl l)]
theorem form_true {l : List Spn} (h : (form l).2 = true) : spanSp.Oks l ∧ spanSp.Canon l (form l).1 ∧ (form l).1.length ≤ 16 := by
  by_cases hh : spanSp.Oks l ∧ ∃ m, spanSp.Canon l m ∧ m.length ≤ 16
  · obtain ⟨ho, m, hm, hl⟩ := hh
    rw [form_is ho hm hl]
    exact ⟨ho, hm, hl⟩
  · unfold form at h
    rw [dif_neg hh] at h; cases h
theorem form_false {l : List Spn} (h : (form l).2 = false) : form l = ([], false) := by
  by_cases hh : spanSp.Oks l ∧ ∃ m, spanSp.Canon l m ∧ m.length ≤ 16
  · obtain ⟨ho, m, hm, hl⟩ := hh
    rw [form_is ho hm hl] at h; cases h
  · unfold form
    rw [dif_neg hh]
theorem form_not {l : List Spn} (h : ¬ spanSp.Oks l) : form l = ([], false) := by
  unfold form
  rw [dif_neg fun hh => h hh.1]
theorem form_long {l m : List Spn} (h : spanSp.Canon l m) (hl : 16 < m.length) : form l = ([], false) := by
  unfold form
  rw [dif_neg]
  rintro ⟨_, n, hn, hnl⟩
  rw [h.unique hn (.refl l)] at hl
  omega
theorem form_same {a b : List Spn} (ha : spanSp.Oks a) (hb : spanSp.Oks b) (h : spanSp.Same a b) : form a = form b := by
  cases hf : (form a).2 with
  | true =>
    obtain ⟨_, hc, hl⟩ := form_true hf
    rw [form_is hb (hc.same_of h.symm) hl, ← hf]
  | false =>
    cases hg : (form b).2 with
    | true =>
      obtain ⟨_, hc, hl⟩ := form_true hg
      rw [form_is ha (hc.same_of h) hl] at hf; cases hf
    | false => rw [form_false hf, form_false hg]
theorem form_form {l : List Spn} (h : (form l).2 = true) : form (form l).1 = form l := by
  obtain ⟨_, hc, hl⟩ := form_true h
  rw [form_is hc.row.oks hc.row.canon hl, ← h]
theorem form_nil : form [] = ([], true) := form_is (fun s hs => (by cases hs)) (Sp.Row.canon ⟨fun s hs => (by cases hs), .nil, .nil⟩) (Nat.zero_le _)

theorem shas_mem {s : Spn} (h : s.ok) (v : Bs) : shas s.lo s.hi v = true ↔ s.mem (.at v) := by
  unfold shas
  rw [show smay s.lo s.hi = true from h]
  simp [Spn.mem, and_assoc]
theorem hasL_cov {l : List Spn} (h : spanSp.Oks l) (v : Bs) : hasL l v = true ↔ spanSp.Cov l (.at v) := by
  unfold hasL
  rw [List.any_eq_true]
  exact ⟨fun ⟨s, hs, hv⟩ => ⟨s, hs, (shas_mem (h s hs) v).1 hv⟩, fun ⟨s, hs, hv⟩ => ⟨s, hs, (shas_mem (h s hs) v).2 hv⟩⟩
theorem hasL_same {a b : List Spn} (ha : spanSp.Oks a) (hb : spanSp.Oks b) (h : spanSp.Same a b) (v : Bs) : hasL a v = hasL b v := by
  rw [Bool.eq_iff_iff, hasL_cov ha, hasL_cov hb]
  exact h.2 _
theorem hasL_form {l : List Spn} (h : (form l).2 = true) (v : Bs) : hasL (form l).1 v = hasL l v := by
  obtain ⟨ho, hc, _⟩ := form_true h
  exact (hasL_same ho hc.row.oks hc.same v).symm
theorem hasL_append (a b : List Spn) (v : Bs) : hasL (a ++ b) v = (hasL a v || hasL b v) := by unfold hasL; rw [List.any_append]

def Spn.both (a b : Spn) : Spn := ((smeet a.1 a.2 b.1 b.2).1, (smeet a.1 a.2 b.1 b.2).2.1)
theorem Spn.both_eq {a b : Spn} (ha : a.ok) (hb : b.ok) (h : a.meets b = true) : a.both b = (mlo a.1 b.1, mhi a.2 b.2) := by
  have h2 := h
  rw [Spn.meets_eq ha hb] at h2
  unfold Spn.both smeet
  unfold Spn.ok at ha hb
  rw [ha, hb, h2]; rfl
theorem Spn.both_ok {a b : Spn} (ha : a.ok) (hb : b.ok) (h : a.meets b = true) : (a.both b).ok := by
  rw [Spn.both_eq ha hb h]
  rw [Spn.meets_eq ha hb] at h
  exact h
theorem Spn.mem_both {a b : Spn} (ha : a.ok) (hb : b.ok) (h : a.meets b = true) (p : Pnt) : (a.both b).mem p ↔ a.mem p ∧ b.mem p := by
  rw [Spn.both_eq ha hb h]
  cases p with
  | bot => exact mlo_nil
  | top => exact mhi_nil
  | «at» v =>
    show (may v = true ∧ lowR (mlo a.1 b.1).data.toList v = true ∧ highR (mhi a.2 b.2).data.toList v = true) ↔ (may v = true ∧ lowR a.lo v = true ∧ highR a.hi v = true) ∧ (may v = true ∧ lowR b.lo v = true ∧ highR b.hi v = true)
    rw [mlo_low, mhi_high, Bool.and_eq_true, Bool.and_eq_true]
    constructor
    · rintro ⟨h0, ⟨h1, h2⟩, h3, h4⟩; exact ⟨⟨h0, h1, h3⟩, h0, h2, h4⟩
    · rintro ⟨⟨h0, h1, h3⟩, _, h2, h4⟩; exact ⟨h0, ⟨h1, h2⟩, h3, h4⟩
theorem Spn.both_comm {a b : Spn} (ha : a.ok) (hb : b.ok) (h : a.meets b = true) : a.both b = b.both a := by
  have h' : b.meets a = true := (Sp.meets_symm (K := spanSp) hb ha).trans h
  exact Spn.ext' (Spn.both_ok ha hb h) (Spn.both_ok hb ha h') fun p => by
    rw [Spn.mem_both ha hb h, Spn.mem_both hb ha h']
    exact And.comm
theorem Spn.meets_self {a : Spn} (ha : a.ok) : a.meets a = true := spanSp.low_same (a := a) (b := a) ha ha (spanSp.low_refl a) (spanSp.low_refl a)
theorem Spn.both_self {a : Spn} (ha : a.ok) : a.both a = a := Spn.ext' (Spn.both_ok ha ha (Spn.meets_self ha)) ha fun p => by
  rw [Spn.mem_both ha ha (Spn.meets_self ha)]
  exact and_self_iff
/-- What a span has in common with each of a row. -/
def meetRow (x : Spn) (b : List Spn) : List Spn := b.filterMap fun y => if x.meets y = true then some (x.both y) else none
def meetL (a b : List Spn) : List Spn := a.flatMap fun x => meetRow x b
theorem meetRow_snoc (x : Spn) {b : List Spn} {k : Nat} (h : k < b.length) : meetRow x (b.take (k + 1)) = meetRow x (b.take k) ++ (if x.meets (Rc.nth b k) = true then [x.both (Rc.nth b k)] else []) := by
  unfold meetRow
  rw [Rc.take_snoc h, List.filterMap_append]
  congr 1
  by_cases hm : x.meets (Rc.nth b k) = true
  · rw [if_pos hm]; simp [hm]
  · rw [if_neg hm]; simp [hm]
theorem meetL_snoc {a : List Spn} (b : List Spn) {k : Nat} (h : k < a.length) : meetL (a.take (k + 1)) b = meetL (a.take k) b ++ meetRow (Rc.nth a k) b := by
  unfold meetL
  rw [Rc.take_snoc h, List.flatMap_append]
  simp
theorem mem_meetL {a b : List Spn} {z : Spn} : z ∈ meetL a b ↔ ∃ x ∈ a, ∃ y ∈ b, x.meets y = true ∧ z = x.both y := by
  unfold meetL meetRow
  rw [List.mem_flatMap]
  constructor
  · rintro ⟨x, hx, h⟩
    obtain ⟨y, hy, h⟩ := List.mem_filterMap.1 h
    by_cases hm : x.meets y = true
    · rw [if_pos hm] at h; cases h; exact ⟨x, hx, y, hy, hm, rfl⟩
    · rw [if_neg hm] at h; cases h
  · rintro ⟨x, hx, y, hy, hm, rfl⟩
    exact ⟨x, hx, List.mem_filterMap.2 ⟨y, hy, by rw [if_pos hm]⟩⟩
theorem meetRow_len (x : Spn) (b : List Spn) : (meetRow x b).length ≤ b.length := List.length_filterMap_le _ _
theorem meetL_len : ∀ (a b : List Spn), (meetL a b).length ≤ a.length * b.length
  | [], b => by simp [meetL]
  | x :: a, b => by
    have h1 := meetL_len a b
    have h2 := meetRow_len x b
    unfold meetL at h1 ⊢
    rw [List.flatMap_cons, List.length_append, List.length_cons, Nat.add_mul]
    omega
theorem meetL_oks {a b : List Spn} (ha : spanSp.Oks a) (hb : spanSp.Oks b) : spanSp.Oks (meetL a b) := fun z hz => by
  obtain ⟨x, hx, y, hy, hm, rfl⟩ := mem_meetL.1 hz
  exact Spn.both_ok (ha x hx) (hb y hy) hm
theorem meetL_comm {a b : List Spn} (ha : spanSp.Oks a) (hb : spanSp.Oks b) : form (meetL a b) = form (meetL b a) :=
  form_same (meetL_oks ha hb) (meetL_oks hb ha) (.of_mem fun z => by
    rw [mem_meetL, mem_meetL]
    constructor
    · rintro ⟨x, hx, y, hy, hm, rfl⟩
      exact ⟨y, hy, x, hx, (Sp.meets_symm (K := spanSp) (hb y hy) (ha x hx)).trans hm, Spn.both_comm (ha x hx) (hb y hy) hm⟩
    · rintro ⟨y, hy, x, hx, hm, rfl⟩
      exact ⟨x, hx, y, hy, (Sp.meets_symm (K := spanSp) (ha x hx) (hb y hy)).trans hm, Spn.both_comm (hb y hy) (ha x hx) hm⟩)
theorem hasL_meetL {a b : List Spn} (ha : spanSp.Oks a) (hb : spanSp.Oks b) (v : Bs) : hasL (meetL a b) v = (hasL a v && hasL b v) := by
  rw [Bool.eq_iff_iff, hasL_cov (meetL_oks ha hb), Bool.and_eq_true, hasL_cov ha, hasL_cov hb]
  constructor
  · rintro ⟨z, hz, hv⟩
    obtain ⟨x, hx, y, hy, hm, rfl⟩ := mem_meetL.1 hz
    have := (Spn.mem_both (ha x hx) (hb y hy) hm (.at v)).1 hv
    exact ⟨⟨x, hx, this.1⟩, y, hy, this.2⟩
  · rintro ⟨⟨x, hx, h1⟩, y, hy, h2⟩
    have hm : x.meets y = true := (Spn.meets_iff (ha x hx) (hb y hy)).2 ⟨.at v, h1, h2⟩
    exact ⟨_, mem_meetL.2 ⟨x, hx, y, hy, hm, rfl⟩, (Spn.mem_both (ha x hx) (hb y hy) hm (.at v)).2 ⟨h1, h2⟩⟩
theorem append_comm_form {a b : List Spn} (ha : spanSp.Oks a) (hb : spanSp.Oks b) : form (a ++ b) = form (b ++ a) :=
  form_same (fun s hs => (List.mem_append.1 hs).elim (ha s) (hb s)) (fun s hs => (List.mem_append.1 hs).elim (hb s) (ha s)) (.of_mem fun s => by rw [List.mem_append, List.mem_append]; exact Or.comm)

/-! How many there are. -/
theorem countP_one {S : Type} {R : S → S → Prop} {p : S → Bool} : ∀ {l : List S}, l.Pairwise R → (∀ a ∈ l, ∀ b ∈ l, R a b → p a = true → p b = true → False) → l.countP p ≤ 1
  | [], _, _ => by simp
  | x :: l, h, hp => by
    rw [List.pairwise_cons] at h
    have ih := countP_one (p := p) h.2 fun a ha b hb => hp a (by simp [ha]) b (by simp [hb])
    rw [List.countP_cons]
    by_cases hx : p x = true
    · have h0 : l.countP p = 0 := by
        rw [List.countP_eq_zero]
        intro b hb hpb
        exact hp x (by simp) b (by simp [hb]) (h.1 b hb) hx hpb
      rw [h0, if_pos hx]
      omega
    · rw [if_neg hx]; omega
theorem sum_swap {S : Type} (q : S → S → Bool) : ∀ (x y : List S), (x.map fun a => y.countP (q a)).sum = (y.map fun b => x.countP fun a => q a b).sum
  | [], y => by
    induction y with
    | nil => rfl
    | cons b y ih => simpa using ih
  | a :: x, y => by
    rw [List.map_cons, List.sum_cons, sum_swap q x y]
    induction y with
    | nil => rfl
    | cons b y ih =>
      rw [List.countP_cons, List.map_cons, List.sum_cons, List.map_cons, List.sum_cons, List.countP_cons, ← ih]
      omega
theorem sum_le {S : Type} {f : S → Nat} : ∀ {l : List S}, (∀ a ∈ l, f a ≤ 1) → (l.map f).sum ≤ l.length
  | [], _ => by simp
  | a :: l, h => by
    have h1 := h a (by simp)
    have h2 := sum_le (f := f) (l := l) fun b hb => h b (by simp [hb])
    rw [List.map_cons, List.sum_cons, List.length_cons]
    omega
theorem sum_add {S : Type} {f g k : S → Nat} : ∀ {l : List S}, (∀ a ∈ l, f a ≤ g a + k a) → (l.map f).sum ≤ (l.map g).sum + (l.map k).sum
  | [], _ => by simp
  | a :: l, h => by
    have h1 := h a (by simp)
    have h2 := sum_add (f := f) (g := g) (k := k) (l := l) fun b hb => h b (by simp [hb])
    simp only [List.map_cons, List.sum_cons]
    omega
theorem countP_or {S : Type} {p q r : S → Bool} : ∀ {l : List S}, (∀ b ∈ l, p b = true → q b = true ∨ r b = true) → l.countP p ≤ l.countP q + l.countP r
  | [], _ => by simp
  | b :: l, h => by
    have ih := countP_or (p := p) (q := q) (r := r) (l := l) fun c hc => h c (by simp [hc])
    have h1 := h b (by simp)
    simp only [List.countP_cons]
    by_cases hp : p b = true
    · rcases h1 hp with h2 | h2
      · rw [if_pos hp, if_pos h2]; split <;> omega
      · rw [if_pos hp, if_pos h2]; split <;> omega
    · rw [if_neg hp]; omega
theorem meetL_count (x y : List Spn) : (meetL x y).length = (x.map fun a => y.countP fun b => a.meets b).sum := by
  unfold meetL
  rw [List.length_flatMap]
  congr 1
  refine List.map_congr_left fun a _ => ?_
  unfold meetRow
  induction y with
  | nil => rfl
  | cons b y ih =>
    rw [List.filterMap_cons, List.countP_cons]
    by_cases h : a.meets b = true
    · simp [h, ih]
    · simp [h, ih]
/-- Two rows in their forms have no more in common than they have spans together. -/
theorem meetL_few {x y : List Spn} (hx : spanSp.Row x) (hy : spanSp.Row y) : (meetL x y).length ≤ x.length + y.length := by
  have h1 : (x.map fun a => y.countP fun b => a.meets b).sum ≤ (x.map fun a => y.countP fun b => a.low b && a.meets b).sum + (x.map fun a => y.countP fun b => b.low a && a.meets b).sum := by
    refine sum_add fun a ha => countP_or fun b hb hm => ?_
    simp only [Bool.and_eq_true]
    cases h : a.low b with
    | true => exact .inl ⟨rfl, hm⟩
    | false => exact .inr ⟨spanSp.low_total (hx.oks a ha) (hy.oks b hb) h, hm⟩
  have h2 : (x.map fun a => y.countP fun b => b.low a && a.meets b).sum ≤ x.length := by
    refine sum_le fun a ha => countP_one (hy.apart.and hy.rising) fun b hb c hc hr h3 h4 => ?_
    obtain ⟨r1, r2⟩ := hr
    simp only [Bool.and_eq_true] at h3 h4
    have f := spanSp.far (hy.oks b hb) (hy.oks c hc) (hx.oks a ha) r2 h4.1 r1
    have e : spanSp.meets b a = spanSp.meets a b := Sp.meets_symm (hy.oks b hb) (hx.oks a ha)
    rw [f] at e
    exact absurd (e.trans h3.2) (by decide)
  have h3 : (x.map fun a => y.countP fun b => a.low b && a.meets b).sum ≤ y.length := by
    rw [sum_swap (fun a b : Spn => a.low b && a.meets b)]
    refine sum_le fun b hb => countP_one (hx.apart.and hx.rising) fun a ha c hc hr h3 h4 => ?_
    obtain ⟨r1, r2⟩ := hr
    simp only [Bool.and_eq_true] at h3 h4
    have f := spanSp.far (hx.oks a ha) (hx.oks c hc) (hy.oks b hb) r2 h4.1 r1
    exact absurd (f.symm.trans h3.2) (by decide)
  rw [meetL_count]
  omega
theorem sum_ge {S : Type} {f : S → Nat} : ∀ {l : List S}, (∀ a ∈ l, 1 ≤ f a) → l.length ≤ (l.map f).sum
  | [], _ => by simp
  | a :: l, h => by
    have h1 := h a (by simp)
    have h2 := sum_ge (f := f) (l := l) fun b hb => h b (by simp [hb])
    rw [List.map_cons, List.sum_cons, List.length_cons]
    omega
/-- A form has no more spans than the set. -/
theorem canon_few {F m : List Spn} (ho : spanSp.Oks F) (h : spanSp.Canon F m) : m.length ≤ F.length := by
  have h1 : m.length ≤ (m.map fun s => F.countP fun t => s.meets t).sum := by
    refine sum_ge fun s hs => ?_
    obtain ⟨p, hp⟩ := spanSp.some_mem (h.row.oks s hs)
    obtain ⟨t, ht, htp⟩ := (h.same.2 p).2 ⟨s, hs, hp⟩
    exact List.countP_pos_iff.2 ⟨t, ht, (Spn.meets_iff (h.row.oks s hs) (ho t ht)).2 ⟨p, hp, htp⟩⟩
  have h2 : (m.map fun s => F.countP fun t => s.meets t).sum ≤ F.length := by
    rw [sum_swap]
    refine sum_le fun t ht => countP_one h.row.apart fun a ha b hb hr h3 h4 => ?_
    obtain ⟨p, p1, p2⟩ := (Spn.meets_iff (h.row.oks a ha) (ho t ht)).1 h3
    obtain ⟨q, q1, q2⟩ := (Spn.meets_iff (h.row.oks b hb) (ho t ht)).1 h4
    have c : spanSp.Closed F (spanSp.mem a) := (h.same.1 _).2 (Sp.closed_one h.row.oks h.row.apart ha)
    have e : spanSp.meets a b = true := (spanSp.meets_iff (h.row.oks a ha) (h.row.oks b hb)).2 ⟨q, c t ht p q p2 q2 p1, q1⟩
    have hr' : spanSp.meets a b = false := hr
    rw [hr'] at e; cases e
  omega
theorem form_few {l : List Spn} (h : (form l).2 = true) : (form l).1.length ≤ l.length := by
  obtain ⟨ho, hc, _⟩ := form_true h
  exact canon_few ho hc
end Go.Proofs.YtdijkekglaimfaaGreatDoor.Ver

/- What the document's loop lays in: plain mathematics; and rows cut in two. -/
namespace Go.Proofs.YtdijkekglaimfaaGreatDoor.Rc
open Go.RowKit
theorem RowD.drop {α : Type} [Inhabited α] {K : Kd α} {w : World} {b off L c k : Nat} {l : List α} (h : RowD K w (.slice (some ⟨b, off, none⟩) L c) l) (hk : k ≤ L) : RowD K w (.slice (some ⟨b, off + k * K.n, none⟩) (L - k) (c - k)) (l.drop k) := by
  obtain ⟨A', c', e, h1, h2, h3⟩ := h
  injection e with e1 e2 e3
  subst e1; subst e3; subst e2
  refine ⟨_, _, by rw [List.length_drop], by rw [List.length_drop]; omega, by omega, fun hp => ?_⟩
  rw [List.length_drop] at hp
  obtain ⟨b', off', ha, hlt, hc⟩ := h3 (by omega)
  cases ha
  refine ⟨b, _, rfl, hlt, fun j hj => ?_⟩
  rw [List.length_drop] at hj
  obtain ⟨cs, g1, g2⟩ := hc (k + j) (by omega)
  have e : Rc.nth (l.drop k) j = Rc.nth l (k + j) := by unfold Rc.nth; rw [List.getElem?_drop]
  refine ⟨cs, by rw [e]; exact g1, fun i hi => ?_⟩
  rw [← g2 i hi, Nat.add_mul]
  congr 2
  omega
theorem RowD.empty' {α : Type} [Inhabited α] {K : Kd α} (w : World) (A : Option Addr) {c : Nat} (hc : c ≤ maxLen) : RowD K w (.slice A 0 c) [] := ⟨A, c, rfl, Nat.zero_le _, hc, fun h => by simp at h⟩
theorem OwnK.from' {e : TypeId} {w0 w w1 : World} {base : Nat} {v : Value} {l : List (ByteArray × ByteArray)} (h : OwnK setK e w0 w base v l) : OwnK setK e w1 w base v l := by
  obtain ⟨css, h1, h2⟩ := h
  exact ⟨css, ⟨h1.1, h1.2⟩, h2⟩
end Go.Proofs.YtdijkekglaimfaaGreatDoor.Rc
namespace Go.Proofs.YtdijkekglaimfaaGreatDoor.Ver
open Go.RowKit Rc Ss

structure Laid (cur : List Spn) (k : Nat) (o : List Spn) : Prop where
  row : spanSp.Row o
  mem : ∀ s, s ∈ o ↔ s ∈ cur.take k
  len : o.length = k
theorem Laid.start (cur : List Spn) : Laid cur 0 [] := ⟨⟨fun s hs => (by cases hs), .nil, .nil⟩, fun s => by simp, rfl⟩
theorem Laid.step {cur o : List Spn} {k p : Nat} (h : Laid cur k o) (hk : k < cur.length) (ho : spanSp.Oks cur) (ha : cur.Pairwise spanSp.Apart) (hp : p ≤ o.length) (h1 : p = 0 ∨ (Rc.nth o (p - 1)).low (Rc.nth cur k) = true) (h2 : ∀ s ∈ o.drop p, (Rc.nth cur k).low s = true) :
    Laid cur (k + 1) (o.take p ++ (Rc.nth cur k :: o.drop p)) := by
  have hx : spanSp.ok (Rc.nth cur k) := ho _ (Rc.nth_mem hk)
  have oko : spanSp.Oks o := h.row.oks
  refine ⟨Sp.Row.lay (by rw [List.take_append_drop]; exact h.row) hx (fun s hs => ?_) (fun s hs => ?_) h2, fun s => ?_, ?_⟩
  · rw [List.take_append_drop] at hs
    obtain ⟨j, hj, rfl⟩ := mem_nth.1 ((h.mem s).1 hs)
    rw [List.length_take] at hj
    rw [Rc.nth_take (by omega)]
    have := List.pairwise_iff_getElem.1 ha j k (by omega) hk (by omega)
    rw [← Rc.nth_lt (show j < cur.length by omega), ← Rc.nth_lt hk] at this
    exact this
  · obtain ⟨j, hj, rfl⟩ := mem_nth.1 hs
    rw [List.length_take] at hj
    rw [Rc.nth_take (by omega)]
    rcases h1 with h1 | h1
    · omega
    by_cases e : j = p - 1
    · rw [e]; exact h1
    · have := List.pairwise_iff_getElem.1 h.row.rising j (p - 1) (by omega) (by omega) (by omega)
      rw [← Rc.nth_lt (show j < o.length by omega), ← Rc.nth_lt (show p - 1 < o.length by omega)] at this
      exact spanSp.low_trans (oko _ (Rc.nth_mem (by omega))) (oko _ (Rc.nth_mem (by omega))) hx this h1
  · have e : s ∈ o.take p ++ (Rc.nth cur k :: o.drop p) ↔ s ∈ o ∨ s = Rc.nth cur k := by
      conv => rhs; rw [← List.take_append_drop p o]
      simp only [List.mem_append, List.mem_cons]
      constructor
      · rintro (h | h | h)
        · exact .inl (.inl h)
        · exact .inr h
        · exact .inl (.inr h)
      · rintro ((h | h) | h)
        · exact .inl h
        · exact .inr (.inr h)
        · exact .inr (.inl h)
    rw [e, h.mem, Rc.take_snoc hk, List.mem_append, List.mem_singleton]
  · rw [List.length_append, List.length_cons, List.length_take, List.length_drop, ← h.len]
    omega
theorem Laid.done {cur o l : List Spn} (h : Laid cur cur.length o) (hs : spanSp.Same l cur) : spanSp.Canon l o := ⟨h.row, hs.trans (.of_mem fun s => by rw [h.mem, List.take_length])⟩
theorem drop_low {o : List Spn} {p : Nat} {x : Spn} (hp : 0 < p) (hl : p ≤ o.length) (h : ∀ s ∈ o.drop p, x.low s = true) (h1 : x.low (Rc.nth o (p - 1)) = true) : ∀ s ∈ o.drop (p - 1), x.low s = true := fun s hs => by
  have e : o.drop (p - 1) = Rc.nth o (p - 1) :: o.drop p := by
    rw [List.drop_eq_getElem_cons (by omega), Rc.nth_lt (by omega)]
    congr 2
    omega
  rw [e] at hs
  rcases List.mem_cons.1 hs with rfl | hs
  · exact h1
  · exact h s hs
end Go.Proofs.YtdijkekglaimfaaGreatDoor.Ver
