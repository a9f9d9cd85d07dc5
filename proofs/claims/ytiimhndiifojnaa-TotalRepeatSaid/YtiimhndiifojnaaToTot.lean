/- total.Repeat: each literal as often as its weight says. -/
import Derived.Test.YtiimhndiifojnaaToRep
import Derived.Test.YtiimhndiifojnaaToApp
namespace Go.Proofs.Ytiimhndiifojnaa.To
open Go.RowKit

def timesI (y : Int) : Nat := (min (max y 0) 1000).toNat
theorem timesI_le (y : Int) : timesI y ≤ 1000 := by unfold timesI; omega
theorem timesI_cast (y : Int) : (timesI y : Int) = min (max y 0) 1000 := by unfold timesI; omega
def oneK (zs ws : List Int) (L2 i : Nat) : List Int := if i < L2 then List.replicate (timesI (ws.getD i 0)) (zs.getD i 0) else []
def repK (zs ws : List Int) (L2 k : Nat) : List Int := (List.range k).flatMap (oneK zs ws L2)
theorem repK_zero (zs ws : List Int) (L2 : Nat) : repK zs ws L2 0 = [] := rfl
theorem repK_succ (zs ws : List Int) (L2 k : Nat) : repK zs ws L2 (k + 1) = repK zs ws L2 k ++ oneK zs ws L2 k := by unfold repK; rw [List.range_succ, List.flatMap_append]; simp
theorem oneK_in {zs ws : List Int} {L2 i : Nat} (h : i < L2) : oneK zs ws L2 i = List.replicate (timesI (ws.getD i 0)) (zs.getD i 0) := if_pos h
theorem oneK_out {zs ws : List Int} {L2 i : Nat} (h : L2 ≤ i) : oneK zs ws L2 i = [] := if_neg (by omega)
theorem oneK_len (zs ws : List Int) (L2 i : Nat) : (oneK zs ws L2 i).length ≤ 1000 := by
  unfold oneK; split
  · rw [List.length_replicate]; exact timesI_le _
  · simp
theorem repK_len (zs ws : List Int) (L2 : Nat) : ∀ k, (repK zs ws L2 k).length ≤ 1000 * k
  | 0 => by simp [repK_zero]
  | k + 1 => by rw [repK_succ, List.length_append]; have := repK_len zs ws L2 k; have := oneK_len zs ws L2 k; omega
theorem repK_stop {zs ws : List Int} {L2 k : Nat} (h : L2 ≤ k) : ∀ m, repK zs ws L2 (k + m) = repK zs ws L2 k
  | 0 => rfl
  | m + 1 => by rw [← Nat.add_assoc, repK_succ, oneK_out (by omega), List.append_nil, repK_stop h m]

theorem repeat_at (w : World) (X c : Nat) (l x : Int) (hx : x = (c : Int)) (hX : w.heap[X]? = some (.cells #[.int .i64 l] 3 (0, 0))) (hc : c ≤ 1000) :
    Calls Try.prog 15 #[.slice (some ⟨X, 0, none⟩) 1 1, .int .i64 x] w fun e w' => e = .returned (.slice (some ⟨w.heap.size, 0, none⟩) c c) ∧ w'.heap[w.heap.size]? = some (.cells (List.replicate c (.int .i64 l)).toArray 3 (0, 0)) ∧ Below w.heap.size w w' := by
  subst hx; exact repeat_is w X c l hX hc
def GivesL (l : List Int) (w : World) (e : Ending) (w' : World) : Prop := ∃ A L c, e = .returned (.slice A L c) ∧ OwnL w' w.heap.size (.slice A L c) l ∧ Below w.heap.size w w'

set_option maxRecDepth 100000 in
set_option maxHeartbeats 800000 in
theorem totRepeat_any (w : World) (A1 : Option Addr) (L1 c1 : Nat) (zs : List Int) (A2 : Option Addr) (L2 c2 : Nat) (ws : List Int) (h1 : IsRow .i64 w A1 L1 c1 zs) (h2 : IsRow .i64 w A2 L2 c2 ws) (hl : L1 ≤ 100) :
    Calls Try.prog 8 #[.slice A1 L1 c1, .slice A2 L2 c2] w (GivesL (repK zs ws L2 L1) w) := by
  have H1 := Lib.hid h1
  have H2 := Lib.hid h2
  have HL := Lib.hid hl
  have hc1 := h1.le
  have hc2 := h2.le
  unfold maxLen at hc1 hc2
  clear h1 h2
  go_enter Try.func8, Try.ntmps8
  go_wp2
  go_loopw [5, 11] (fun t i wr => ∃ (k : Nat) (T : Option Addr) (n c : Nat), k ≤ L1 ∧ i = .int .i64 k ∧ t = .slice T n c ∧ OwnL wr w.heap.size (.slice T n c) (repK zs ws L2 k) ∧ Below w.heap.size w wr) (fun _ i _ => L1 - (intOf i).toNat)
  case atStart => exact ⟨0, none, 0, 0, Nat.zero_le _, rfl, rfl, OwnL.nil _ _, Below.refl _ _⟩
  case round =>
    obtain ⟨k, T, n, c, hk, rfl, rfl, hown, hb⟩ := hrel
    have HO := Lib.hid hown
    have HB := Lib.hid hb
    have HN := Lib.hid hown.open'
    by_cases hlt : k < L1
    · obtain ⟨b, off, rfl, hb1, g1⟩ := H1.out.at (by omega)
      have c0 := (hb.cell (p := ⟨b, off + k, none⟩) hb1).trans (g1 k hlt).1
      obtain ⟨z, hz⟩ : ∃ z, zs.getD k 0 = z := ⟨_, rfl⟩
      rw [hz] at c0
      have HZ := Lib.hid hz
      clear hz hb1 g1
      by_cases hl2 : k < L2
      · obtain ⟨b2, off2, rfl, hb2, g2⟩ := H2.out.at (by omega)
        have d0 := (hb.cell (p := ⟨b2, off2 + k, none⟩) hb2).trans (g2 k hl2).1
        obtain ⟨y, hy⟩ : ∃ y, ws.getD k 0 = y := ⟨_, rfl⟩
        rw [hy] at d0
        have HY := Lib.hid hy
        obtain ⟨t, ht⟩ : ∃ t, timesI y = t := ⟨_, rfl⟩
        have HT := Lib.hid ht
        have htc := timesI_cast y
        rw [ht] at htc
        have HTC := Lib.hid htc
        have hle := repK_len zs ws L2 k
        have hkk : n ≤ 99000 := by have := HN.out.1; omega
        have HKK := Lib.hid hkk
        have k1 : ¬ (L2 : Int) ≤ (k : Int) := by omega
        have k2 : (k : Int) < (L2 : Int) := by omega
        have k3 : (0 : Int) ≤ (k : Int) := by omega
        clear hy hb2 g2 ht hb hown hle htc
        go_wp2_with fail
        all_goals
          refine (repeat_at _ wr.heap.size t z _ (by have := HTC.out; have := HKK.out; omega) (heap_alloc_new wr _) (by rw [← HT.out]; exact timesI_le _)).mono ?_
          rintro e w2 ⟨rfl, hr2, hb2⟩
          rw [World.size_alloc] at hr2
          have hba : Below wr.heap.size wr w2 := (below_alloc' wr _).trans (hb2.mono (by simp))
          have HB2 := Lib.hid (HB.out.trans (hba.mono HB.out.size))
          have HO2 := Lib.hid (HO.out.below hba)
          have HR2 := Lib.hid hr2
          have HK1 := Lib.hid (show repK zs ws L2 (k + 1) = repK zs ws L2 k ++ List.replicate t z by rw [repK_succ, oneK_in hl2, HY.out, HT.out, HZ.out])
          have HLN := Lib.hid (show (repK zs ws L2 k).length + t ≤ 200000 by have := repK_len zs ws L2 k; have := timesI_le y; have := HT.out; have := HKK.out; have := HN.out.1; omega)
          clear hr2 hb2 hba c0 d0
          go_wp2_with (at_builtin; refine wpList_app_ints rfl (.tmp 29) (.tmp 33) rfl rfl (base := w.heap.size) (l := repK zs ws L2 k) (news := List.replicate t z) rfl rfl HO2.out (by simp) (fun j u hj => by rw [Addr.add_lit, Nat.zero_add]; exact cells_get HR2.out j (by rw [List.map_replicate] at hj; rw [List.getElem?_toArray]; exact hj)) HLN.out HB2.out.size ?_; intro A' L' c' w3 hown3 hg3 hw3; have HO3 := Lib.hid hown3; have HB3 := Lib.hid (HB2.out.grown hg3 HB2.out.size (fun i e => (HO2.out.lt i e).1)); clear hown3 hg3 hw3)
          go_roundw
          case rel => exact ⟨k + 1, A', L', c', by omega, by go_num, rfl, by rw [HK1.out]; exact HO3.out, HB3.out⟩
          case measure => simp [intOf]; omega
      · have k1 : (L2 : Int) ≤ (k : Int) := by omega
        have HE := Lib.hid (show repK zs ws L2 L1 = repK zs ws L2 k by
          have := repK_stop (zs := zs) (ws := ws) (L2 := L2) (k := k) (by omega) (L1 - k)
          rwa [show k + (L1 - k) = L1 by omega] at this)
        clear hown hb
        go_wp2
        go_ret
        exact ⟨T, n, c, rfl, by rw [HE.out]; exact HO.out, HB.out⟩
    · obtain rfl : k = L1 := by omega
      clear hown hb
      go_wp2
      go_ret
      exact ⟨T, n, c, rfl, HO.out, HB.out⟩
end Go.Proofs.Ytiimhndiifojnaa.To
