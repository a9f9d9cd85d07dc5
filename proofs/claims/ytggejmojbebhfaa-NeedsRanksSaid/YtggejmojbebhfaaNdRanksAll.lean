/- Rank, both: how many releases are newer. -/
import Derived.Test.YtggejmojbebhfaaRcBxs
import Derived.Test.YtggejmojbebhfaaVerCompare
import Derived.Test.YtggejmojbebhfaaVerRef4
import Derived.Test.YtggejmojbebhfaaNdHas
import Derived.Test.YtggejmojbebhfaaNdTargets
import Derived.Test.YtggejmojbebhfaaRcGreat3
import Derived.Deep.RegionHeld3
namespace Go.Proofs.Ytggejmojbebhfaa.Rc
open Go.RowKit

def relIs (x : Rel) (s : ByteArray) : Bool := eqS x.1 s
def newer (x : Rel) (s : ByteArray) : Bool := decide (Ver.compare x.1.data.toList s.data.toList = 1)
def cntK (x : Pkg) (s : ByteArray) (k : Nat) : Nat := ((x.rels.take k).filter (fun r => newer r s)).length
theorem cntK_zero (x : Pkg) (s : ByteArray) : cntK x s 0 = 0 := rfl
theorem cntK_le (x : Pkg) (s : ByteArray) (k : Nat) : cntK x s k ≤ k := Nat.le_trans (List.length_filter_le _ _) (by rw [List.length_take]; omega)
theorem cntK_yes {x : Pkg} {s : ByteArray} {k : Nat} (hk : k < x.rels.length) (h : newer (nth x.rels k) s = true) : cntK x s (k + 1) = cntK x s k + 1 := by
  unfold cntK; rw [filter_snoc hk, h]; simp
theorem cntK_no {x : Pkg} {s : ByteArray} {k : Nat} (hk : k < x.rels.length) (h : newer (nth x.rels k) s = false) : cntK x s (k + 1) = cntK x s k := by
  unfold cntK; rw [filter_snoc hk, h]; simp
def rankI (x : Pkg) (s : ByteArray) : Int := if x.rels.any (fun r => relIs r s) then (cntK x s x.rels.length : Nat) else -1
theorem rankI_yes {x : Pkg} {s : ByteArray} (h : x.rels.any (fun r => relIs r s) = true) : rankI x s = (cntK x s x.rels.length : Nat) := by unfold rankI; rw [if_pos h]
theorem rankI_no {x : Pkg} {s : ByteArray} (h : x.rels.any (fun r => relIs r s) = false) : rankI x s = -1 := by unfold rankI; rw [h]; rfl
theorem less_new (x : Rel) (s : ByteArray) : Ver.less s.data.toList x.1.data.toList = newer x s := by
  unfold Ver.less newer
  rw [Ver.compare_anti x.1.data.toList s.data.toList]
  rcases Ver.compare_range x.1.data.toList s.data.toList with h | h | h <;> rw [h] <;> decide
theorem new_of {x : Rel} {s : ByteArray} {m : Int} (h : Ver.compare x.1.data.toList s.data.toList = m) : newer x s = decide (m = 1) := by unfold newer; rw [h]
theorem ver_is (a b : ByteArray) (n : Int) (h : Ver.compare a.data.toList b.data.toList = n) (w : World) :
    Calls Try.prog 51 #[.string a, .string b] w fun e w' => e = .returned (.int .i64 n) ∧ Below w.heap.size w w' := by
  subst h; exact Ver.compare_any a b w
theorem less_is (a b : ByteArray) (v : Bool) (h : Ver.less a.data.toList b.data.toList = v) (w : World) :
    Calls Try.prog 33 #[.string a, .string b] w fun e w' => e = .returned (.bool v) ∧ Below w.heap.size w w' := by
  subst h; exact Ver.less_any a b w

theorem rank1_any (w : World) (x : Rel) (s : ByteArray) (P : Nat) (hP : w.cell? ⟨P, 0, none⟩ = some (.string s)) :
    Calls Try.prog 50 #[.agg #[.string x.1, .bool x.2], .pointer (some ⟨P, 0, none⟩)] w fun e w' => e = .returned (.bool (relIs x s)) ∧ Below w.heap.size w w' := by
  have hb0 := below_alloc' w (.cells #[.string x.1, .bool x.2] 58)
  have hlt := World.block_lt_of_cell? w _ hP
  have hc1 := (hb0.cell (p := ⟨P, 0, none⟩) hlt).trans hP
  have hPn : ¬ P = w.heap.size := by simp at hlt; omega
  have HB := Lib.hid hb0
  clear hb0 hP
  go_enter Try.func50, Try.ntmps50
  go_wp2
  refine bodyPost_ret (v := .bool (relIs x s)) (by simp [results, Try.results50, go_sem, relIs, eqS, Va.eqS]) rfl ⟨rfl, HB.out⟩

set_option maxRecDepth 100000 in
set_option maxHeartbeats 1600000 in
theorem idx_rank (w : World) (v : Value) (l : List Rel) (s : ByteArray) (P : Nat) (h : RowD relK w v l) (hP0 : w.cell? ⟨P, 0, none⟩ = some (.string s)) :
    Calls Try.prog 77 #[v, .func (.func 50) #[] #[.pointer (some ⟨P, 0, none⟩)]] w fun e w' => e = .returned (.int .i64 (idx (fun x => relIs x s) l)) ∧ Below w.heap.size w w' := by
  obtain ⟨A, L, c, rfl, hL, h1, h2⟩ := h.open'
  unfold maxLen at h2
  have H := Lib.hid h
  have HL := Lib.hid hL
  have HP0 := Lib.hid hP0
  have hlp := World.block_lt_of_cell? w _ hP0
  clear h hL hP0
  go_enter Try.func77, Try.ntmps77
  go_wp2
  go_loopw [8] (fun i wr => ∃ k : Nat, k ≤ L ∧ i = .int .i64 k ∧ Hid ((l.take k).any (fun x => relIs x s) = false) ∧ Below w.heap.size w wr) (fun i _ => L - (intOf i).toNat)
  case atStart => exact ⟨0, Nat.zero_le _, rfl, Lib.hid (by simp), Below.refl _ _⟩
  case round =>
    obtain ⟨k, hk, rfl, hall, hbw⟩ := hrel
    have HBW := Lib.hid hbw
    by_cases hlt : k < L
    · obtain ⟨b, off, rfl, hb, hs, c0, c1⟩ := rel_at (H.out.below hbw (Nat.le_refl _)) hlt
      have qP0 := Lib.hid ((hbw.cell (p := ⟨P, 0, none⟩) hlp).trans HP0.out)
      have hkl : k < l.length := by rw [← HL.out]; exact hlt
      have HS := Lib.hid (any_snoc hkl (fun x => relIs x s))
      clear hs
      clear hbw
      go_wp2_with fail
      refine (rank1_any _ _ _ P  qP0.out).mono ?_
      rintro e w1 ⟨rfl, hb1⟩
      have HB1 := Lib.hid (HBW.out.trans (hb1.mono HBW.out.size))
      clear hb1
      cases he : relIs (nth l k) s with
      | true =>
        have Hv := Lib.hid (idx_hit hkl hall.out (p := (fun x => relIs x s)) he)
        clear he hkl
        go_wp2
        go_ret
        exact ⟨ret_int Hv.out.symm, HB1.out⟩
      | false =>
        have hn : Hid ((l.take (k + 1)).any (fun x => relIs x s) = false) := Lib.hid (by rw [HS.out, hall.out]; simpa using he)
        clear he hkl
        go_wp2
        go_roundw
        case rel => exact ⟨k + 1, by omega, by go_num, hn, HB1.out⟩
        case measure => simp [intOf]; omega
    · obtain rfl : k = L := by omega
      have Hv := Lib.hid (show idx (fun x => relIs x s) l = -1 from idx_miss (by
        have := hall.out
        rwa [HL.out, List.take_length] at this))
      clear hbw
      go_wp2
      go_ret
      exact ⟨ret_int Hv.out.symm, HBW.out⟩

theorem has_rank (w : World) (v : Value) (l : List Rel) (s : ByteArray) (P : Nat) (h : RowD relK w v l) (hP0 : w.cell? ⟨P, 0, none⟩ = some (.string s)) : Calls Try.prog 49 #[v, .func (.func 50) #[] #[.pointer (some ⟨P, 0, none⟩)]] w fun e w' => e = .returned (.bool (l.any (fun x => relIs x s))) ∧ Below w.heap.size w w' := by
  obtain ⟨r, hr⟩ : ∃ r, idx (fun x => relIs x s) l = r := ⟨_, rfl⟩
  have hc := idx_rank w v l s P h hP0
  rw [hr] at hc
  have HC := Lib.hid hc
  have HR := Lib.hid hr
  clear h hP0 hc hr
  go_enter Try.func49, Try.ntmps49
  go_wp2_with fail
  refine HC.out.mono ?_
  rintro e w1 ⟨rfl, hb⟩
  go_wp2
  go_ret
  exact ⟨ret_bool (by rw [← idx_any (fun x => relIs x s) l, HR.out]), hb⟩


theorem has_rank_is (w : World) (v : Value) (l : List Rel) (s : ByteArray) (P : Nat) (h : RowD relK w v l) (hP0 : w.cell? ⟨P, 0, none⟩ = some (.string s)) (b : Bool) (hb : l.any (fun x => relIs x s) = b) :
    Calls Try.prog 49 #[v, .func (.func 50) #[] #[.pointer (some ⟨P, 0, none⟩)]] w fun e w' => e = .returned (.bool b) ∧ Below w.heap.size w w' := by subst hb; exact has_rank w v l s P h hP0

set_option maxRecDepth 100000 in
set_option maxHeartbeats 1600000 in
theorem rank_is (w : World) (v1 v2 v3 v4 v5 v6 : Value) (x : Pkg) (s : ByteArray) (h : IsPkg w v1 v2 v3 v4 v5 v6 x) (n : Int) (hn : rankI x s = n) :
    Calls Try.prog 23 #[.agg #[.string x.name, .int .i64 x.line, v1, v2, v3, v4, v5, v6], .string s] w fun e w' => e = .returned (.int .i64 n) ∧ Below w.heap.size w w' := by
  obtain ⟨⟨a1, n1, k1, rfl⟩, ⟨a2, n2, k2, rfl⟩, ⟨a3, n3, k3, rfl⟩, ⟨a4, n4, k4, rfl⟩, ⟨a5, n5, k5, rfl⟩, ⟨a6, n6, k6, rfl⟩⟩ := h.sls
  have HX := Lib.hid (Bxs.two w #[.string x.name, .int .i64 x.line, .slice a1 n1 k1, .slice a2 n2 k2, .slice a3 n3 k3, .slice a4 n4 k4, .slice a5 n5 k5, .slice a6 n6 k6] 45 #[.string s] 9)
  have HR := Lib.hid h.rels
  have HN := Lib.hid hn
  have HL := Lib.hid h.rels.len
  have hcap := h.rels.cap
  obtain ⟨b, hb⟩ : ∃ b, x.rels.any (fun r => relIs r s) = b := ⟨_, rfl⟩
  have HB := Lib.hid hb
  clear h hn hb
  have x2 := HX.out.get0 2 (v := .slice a1 n1 k1) rfl rfl
  have xs := HX.out.get 1 0 (v := .string s) rfl rfl
  go_enter Try.func23, Try.ntmps23
  go_wp2_with fail
  refine (has_rank_is _ _ x.rels s _ (HR.out.below HX.out.bel (Nat.le_refl _)) (HX.out.get 1 0 (v := .string s) rfl rfl) b HB.out).mono ?_
  rintro e w1 ⟨rfl, hb1⟩
  have HX1 := Lib.hid (HX.out.step hb1)
  clear hb1 x2 xs HX
  have x2 := HX1.out.get0 2 (v := .slice a1 n1 k1) rfl rfl
  cases b with
  | false =>
    have HV := Lib.hid (show n = -1 by rw [← HN.out, rankI_no HB.out])
    go_wp2
    go_ret
    exact ⟨ret_int HV.out.symm, HX1.out.bel⟩
  | true =>
    have HV := Lib.hid (show n = (cntK x s x.rels.length : Nat) by rw [← HN.out, rankI_yes HB.out])
    clear HN HB
    go_wp2
    go_loopw [5, 16] (fun t i wr => ∃ k : Nat, k ≤ n1 ∧ i = .int .i64 k ∧ t = .int .i64 (cntK x s k : Nat) ∧ Bxs w wr [(#[.string x.name, .int .i64 x.line, .slice a1 n1 k1, .slice a2 n2 k2, .slice a3 n3 k3, .slice a4 n4 k4, .slice a5 n5 k5, .slice a6 n6 k6], 45), (#[.string s], 9)]) (fun _ i _ => n1 - (intOf i).toNat)
    case atStart => exact ⟨0, Nat.zero_le _, rfl, rfl, HX1.out⟩
    case round =>
      clear HX1 x2
      obtain ⟨k, hk, rfl, rfl, hx⟩ := hrel
      have HX := Lib.hid hx
      have HCK := Lib.hid (cntK_le x s k)
      by_cases hlt : k < n1
      · obtain ⟨b, off, rfl, hb, hs, c0, c1⟩ := rel_at (HR.out.below hx.bel (Nat.le_refl _)) hlt
        have HKL := Lib.hid (show k < x.rels.length by rw [← HL.out]; exact hlt)
        generalize hw1 : wr.alloc (.cells #[.string (nth x.rels k).1, .bool (nth x.rels k).2] 58) = w1
        have HW1 := Lib.hid hw1
        have hbox := Boxed.new wr #[.string (nth x.rels k).1, .bool (nth x.rels k).2] 58
        rw [hw1] at hbox
        have HX1 := Lib.hid (hx.step hbox.bel)
        have xs1 := (hx.alloc (.cells #[.string (nth x.rels k).1, .bool (nth x.rels k).2] 58)).get 1 0 (v := .string s) rfl rfl
        obtain ⟨m, hm⟩ : ∃ m, Ver.compare (nth x.rels k).1.data.toList s.data.toList = m := ⟨_, rfl⟩
        have HM := Lib.hid hm
        have hr := Ver.compare_range (nth x.rels k).1.data.toList s.data.toList
        rw [hm] at hr
        have hck : cntK x s k ≤ 9223372036854775806 := by have := HCK.out; omega
        clear hm hw1 hbox hs hb hx
        go_wp2_with fail
        rw [HW1.out]
        refine (ver_is _ _ m HM.out _).mono ?_
        rintro e w2 ⟨rfl, hb2⟩
        have HX2 := Lib.hid (HX1.out.step hb2)
        have HM2 := Lib.hid (new_of HM.out)
        clear hb2 xs1 HX1 c0 c1
        rcases hr with rfl | rfl | rfl
        · go_wp2
          go_roundw
          case rel => exact ⟨k + 1, by omega, by go_num, by rw [cntK_no HKL.out (by rw [HM2.out]; rfl)], HX2.out⟩
          case measure => simp [intOf]; omega
        · go_wp2
          go_roundw
          case rel => exact ⟨k + 1, by omega, by go_num, by rw [cntK_no HKL.out (by rw [HM2.out]; rfl)], HX2.out⟩
          case measure => simp [intOf]; omega
        · go_wp2
          go_roundw
          case rel => exact ⟨k + 1, by omega, by go_num, by rw [cntK_yes HKL.out (by rw [HM2.out]; rfl)]; go_num, HX2.out⟩
          case measure => simp [intOf]; omega
      · obtain rfl : k = n1 := by omega
        have HV2 := Lib.hid (show n = (cntK x s k : Nat) by rw [HV.out, HL.out])
        clear hx
        go_wp2
        go_ret
        exact ⟨ret_int HV2.out.symm, HX.out.bel⟩


set_option maxRecDepth 100000 in
set_option maxHeartbeats 1600000 in
theorem refRank_is (w : World) (v1 v2 v3 v4 v5 v6 : Value) (x : Pkg) (s : ByteArray) (h : IsPkg w v1 v2 v3 v4 v5 v6 x) (n : Int) (hn : rankI x s = n) :
    Calls Try.prog 24 #[.agg #[.string x.name, .int .i64 x.line, v1, v2, v3, v4, v5, v6], .string s] w fun e w' => e = .returned (.int .i64 n) ∧ Below w.heap.size w w' := by
  obtain ⟨⟨a1, n1, k1, rfl⟩, ⟨a2, n2, k2, rfl⟩, ⟨a3, n3, k3, rfl⟩, ⟨a4, n4, k4, rfl⟩, ⟨a5, n5, k5, rfl⟩, ⟨a6, n6, k6, rfl⟩⟩ := h.sls
  have HX := Lib.hid (Bxs.one w #[.string x.name, .int .i64 x.line, .slice a1 n1 k1, .slice a2 n2 k2, .slice a3 n3 k3, .slice a4 n4 k4, .slice a5 n5 k5, .slice a6 n6 k6] 45)
  have HR := Lib.hid h.rels
  have HN := Lib.hid hn
  have HL := Lib.hid h.rels.len
  have hcap := h.rels.cap
  clear h hn
  have x2 := HX.out.get0 2 (v := .slice a1 n1 k1) rfl rfl
  go_enter Try.func24, Try.ntmps24
  go_wp2
  go_loopw [5, 6, 11] (fun t u i wr => ∃ k : Nat, k ≤ n1 ∧ i = .int .i64 k ∧ t = .int .i64 (cntK x s k : Nat) ∧ u = .bool ((x.rels.take k).any (fun r => relIs r s)) ∧ Bxs w wr [(#[.string x.name, .int .i64 x.line, .slice a1 n1 k1, .slice a2 n2 k2, .slice a3 n3 k3, .slice a4 n4 k4, .slice a5 n5 k5, .slice a6 n6 k6], 45)]) (fun _ _ i _ => n1 - (intOf i).toNat)
  case atStart => exact ⟨0, Nat.zero_le _, rfl, rfl, rfl, HX.out⟩
  case round =>
    clear HX x2
    obtain ⟨k, hk, rfl, rfl, rfl, hx⟩ := hrel
    have HX := Lib.hid hx
    have HCK := Lib.hid (cntK_le x s k)
    obtain ⟨b0, hb0⟩ : ∃ b0, (x.rels.take k).any (fun r => relIs r s) = b0 := ⟨_, rfl⟩
    rw [hb0]
    have HB0 := Lib.hid hb0
    clear hb0
    by_cases hlt : k < n1
    · obtain ⟨b, off, rfl, hb, hs, c0, c1⟩ := rel_at (HR.out.below hx.bel (Nat.le_refl _)) hlt
      have x2 := HX.out.get0 2 (v := .slice (some ⟨b, off, none⟩) n1 k1) rfl rfl
      have HKL := Lib.hid (show k < x.rels.length by rw [← HL.out]; exact hlt)
      have HS := Lib.hid (any_snoc HKL.out (fun r => relIs r s))
      obtain ⟨m, hm⟩ : ∃ m, newer (nth x.rels k) s = m := ⟨_, rfl⟩
      have HM := Lib.hid ((less_new _ _).trans hm)
      have HM2 := Lib.hid hm
      have hck : cntK x s k ≤ 9223372036854775806 := by have := HCK.out; omega
      obtain ⟨b1, hb1⟩ : ∃ b1, relIs (nth x.rels k) s = b1 := ⟨_, rfl⟩
      have hb2 : ((nth x.rels k).1.toList == s.toList) = b1 := hb1
      have HB1 := Lib.hid hb1
      clear hm hb hs hx hb1
      have HN2 := Lib.hid (show (x.rels.take (k + 1)).any (fun r => relIs r s) = (b0 || b1) by rw [HS.out, HB0.out, HB1.out])
      cases b0 <;> cases b1
      all_goals
        go_wp2_with fail
        refine (less_is _ _ m HM.out _).mono ?_
        rintro e w2 ⟨rfl, hb2⟩
        have HX2 := Lib.hid (HX.out.step hb2)
        clear hb2 x2 c0 c1
        cases m with
        | false =>
          go_wp2
          go_roundw
          case rel => exact ⟨k + 1, by omega, by go_num, by rw [cntK_no HKL.out HM2.out], by rw [HN2.out]; rfl, HX2.out⟩
          case measure => simp [intOf]; omega
        | true =>
          go_wp2
          go_roundw
          case rel => exact ⟨k + 1, by omega, by go_num, by rw [cntK_yes HKL.out HM2.out]; go_num, by rw [HN2.out]; rfl, HX2.out⟩
          case measure => simp [intOf]; omega
    · obtain rfl : k = n1 := by omega
      clear hx
      have HB1 := Lib.hid (show x.rels.any (fun r => relIs r s) = b0 by rw [← HB0.out, HL.out, List.take_length])
      cases b0 with
      | false =>
        have HV := Lib.hid (show n = -1 by rw [← HN.out, rankI_no HB1.out])
        go_wp2
        go_ret
        exact ⟨ret_int HV.out.symm, HX.out.bel⟩
      | true =>
        have HV2 := Lib.hid (show n = (cntK x s k : Nat) by rw [← HN.out, rankI_yes HB1.out, HL.out])
        go_wp2
        go_ret
        exact ⟨ret_int HV2.out.symm, HX.out.bel⟩
end Go.Proofs.Ytggejmojbebhfaa.Rc

/- Ranks of versions that are all unlike: plain mathematics. -/
namespace Go.Proofs.Ytggejmojbebhfaa.Rc
open Go.RowKit

def vMay (s : ByteArray) : Bool := Ver.may s.data.toList
def cmpV (a b : ByteArray) : Int := Ver.compare a.data.toList b.data.toList
def nw (v r : ByteArray) : Bool := decide (cmpV r v = 1)
def rels0 (l : List ByteArray) : List Rel := l.map fun s => (s, false)
def rowPkg (l : List ByteArray) : Pkg := ⟨⟨#[]⟩, 0, rels0 l, [], [], [], [], []⟩
def rnkV (l : List ByteArray) (v : ByteArray) : Nat := (l.filter (nw v)).length
def rnk (l : List ByteArray) (k : Nat) : Nat := rnkV l (nth l k)
theorem cnt_lt {α : Type} {p q : α → Bool} : ∀ (l : List α), (∀ x ∈ l, p x = true → q x = true) → (∃ x ∈ l, q x = true ∧ p x = false) → (l.filter p).length < (l.filter q).length
  | [], _, h => by obtain ⟨_, h, _⟩ := h; cases h
  | a :: l, h, hx => by
    have hle : ∀ l' : List α, (∀ x ∈ l', p x = true → q x = true) → (l'.filter p).length ≤ (l'.filter q).length := fun l' h' => by
      induction l' with
      | nil => simp
      | cons b l' ih =>
        have i := ih fun x hx => h' x (List.mem_cons_of_mem _ hx)
        have hb := h' b List.mem_cons_self
        simp only [List.filter_cons]
        cases hp : p b <;> cases hq : q b <;> simp_all <;> omega
    obtain ⟨x, hm, hq, hp⟩ := hx
    have ha := h a List.mem_cons_self
    have ht : ∀ x ∈ l, p x = true → q x = true := fun x hx => h x (List.mem_cons_of_mem _ hx)
    have hl := hle l ht
    simp only [List.filter_cons]
    rcases List.mem_cons.1 hm with rfl | hm
    · rw [hq, hp]; simp; omega
    · have i := cnt_lt l ht ⟨x, hm, hq, hp⟩
      cases hp' : p a <;> cases hq' : q a <;> simp_all <;> omega
theorem rank_in {l : List ByteArray} {v : ByteArray} (hv : v ∈ l) : rankI (rowPkg l) v = (rnkV l v : Nat) := by
  have ha : (rowPkg l).rels.any (fun r => relIs r v) = true := List.any_eq_true.2 ⟨(v, false), List.mem_map.2 ⟨v, hv, rfl⟩, by unfold relIs; exact Va.eqS_iff.2 rfl⟩
  rw [rankI_yes ha]
  congr 1
  unfold cntK rnkV
  rw [List.take_length]
  show ((l.map fun s => ((s, false) : Rel)).filter (fun r => newer r v)).length = _
  rw [List.filter_map, List.length_map]
  rfl
theorem nw_self (v : ByteArray) : nw v v = false := by unfold nw cmpV; rw [Ver.compare_self]; rfl
theorem rnkV_lt {l : List ByteArray} {v : ByteArray} (hv : v ∈ l) : rnkV l v < l.length := by
  have h := cnt_lt (p := nw v) (q := fun _ => true) l (fun _ _ _ => rfl) ⟨v, hv, rfl, nw_self v⟩
  have e : (l.filter (fun _ => true)) = l := List.filter_eq_self.2 fun _ _ => rfl
  rw [e] at h
  exact h
theorem rnkV_less {l : List ByteArray} {v w : ByteArray} (hw : w ∈ l) (h : cmpV v w = -1) : rnkV l w < rnkV l v := by
  have h1 : cmpV w v = 1 := by unfold cmpV at h ⊢; rw [Ver.compare_anti v.data.toList w.data.toList, h]; rfl
  refine cnt_lt l (fun x _ hx => ?_) ⟨w, hw, by unfold nw; rw [h1]; rfl, nw_self w⟩
  unfold nw at hx ⊢
  rw [decide_eq_true_eq] at hx ⊢
  rcases Ver.compare_range x.data.toList v.data.toList with e | e | e
  · have := Ver.compare_trans x.data.toList v.data.toList w.data.toList (by rw [e]; decide) (by unfold cmpV at h; rw [h]; decide)
    unfold cmpV at hx
    omega
  · have := Ver.compare_trans x.data.toList v.data.toList w.data.toList (by rw [e]; decide) (by unfold cmpV at h; rw [h]; decide)
    unfold cmpV at hx
    omega
  · exact e
theorem rnkV_ne {l : List ByteArray} {v w : ByteArray} (hv : v ∈ l) (hw : w ∈ l) (mv : vMay v = true) (hne : v ≠ w) : rnkV l v ≠ rnkV l w := by
  rcases Ver.compare_range v.data.toList w.data.toList with e | e | e
  · have := rnkV_less (v := v) hw e; omega
  · rcases Ver.compare_eq e with h | h
    · exact absurd (ByteArray.ext (Array.ext' h)) hne
    · unfold vMay at mv; rw [h.1] at mv; cases mv
  · have h1 : cmpV w v = -1 := by unfold cmpV; rw [Ver.compare_anti v.data.toList w.data.toList, e]
    have := rnkV_less (v := w) hv h1; omega
theorem rank_nth {l : List ByteArray} {k : Nat} (hk : k < l.length) : rankI (rowPkg l) (nth l k) = (rnk l k : Nat) := rank_in (nth_mem hk)
theorem rnk_lt {l : List ByteArray} {k : Nat} (hk : k < l.length) : rnk l k < l.length := rnkV_lt (nth_mem hk)
theorem rnk_less {l : List ByteArray} {k m : Nat} (hm : m < l.length) (h : Ver.less (nth l k).data.toList (nth l m).data.toList = true) : rnk l m < rnk l k := rnkV_less (nth_mem hm) (by unfold Ver.less at h; exact of_decide_eq_true h)
theorem nth_inj {l : List ByteArray} (hn : l.Nodup) {k m : Nat} (hk : k < l.length) (hm : m < l.length) (h : nth l k = nth l m) : k = m := by
  rw [nth_lt hk, nth_lt hm] at h
  exact (List.getElem_inj hn).1 h
theorem rnk_ne {l : List ByteArray} (hn : l.Nodup) (hmay : ∀ x ∈ l, vMay x = true) {k m : Nat} (hk : k < l.length) (hm : m < l.length) (hne : m ≠ k) : rnk l m ≠ rnk l k :=
  rnkV_ne (nth_mem hm) (nth_mem hk) (hmay _ (nth_mem hm)) fun e => hne (nth_inj hn hm hk e)
def seenB (l : List ByteArray) (k j : Nat) : Bool := (List.range k).any fun m => rnk l m == j
theorem seenB_zero (l : List ByteArray) (j : Nat) : seenB l 0 j = false := rfl
theorem seenB_succ (l : List ByteArray) (k j : Nat) : seenB l (k + 1) j = (seenB l k j || (rnk l k == j)) := by unfold seenB; rw [List.range_succ, List.any_append]; simp
theorem seenB_own {l : List ByteArray} (hn : l.Nodup) (hmay : ∀ x ∈ l, vMay x = true) {k : Nat} (hk : k < l.length) : seenB l k (rnk l k) = false := by
  unfold seenB
  rw [List.any_eq_false]
  intro m hm
  have hm := List.mem_range.1 hm
  have := rnk_ne hn hmay hk (m := m) (by omega) (by omega)
  simpa using this
/-- What has been seen, in cells. -/
def Seen (l : List ByteArray) (k : Nat) (cs : Array Value) : Prop := cs.size = l.length ∧ ∀ j, j < l.length → cs[j]? = some (.bool (seenB l k j))
theorem Seen.step {l : List ByteArray} {k : Nat} {cs : Array Value} (h : Seen l k cs) (hk : k < l.length) : Seen l (k + 1) (cs.setIfInBounds (rnk l k) (.bool true)) := by
  have hr := rnk_lt hk
  refine ⟨by rw [Array.size_setIfInBounds, h.1], fun j hj => ?_⟩
  rw [Array.getElem?_setIfInBounds, seenB_succ]
  by_cases e : rnk l k = j
  · subst e; simp [h.1, hr]
  · have e2 : (rnk l k == j) = false := by simpa using e
    simp [e, e2, h.2 j hj]
end Go.Proofs.Ytggejmojbebhfaa.Rc

/- NeedsRow's package: its block, and its row of releases. -/
namespace Go.Proofs.Ytggejmojbebhfaa.Rc
open Go.RowKit

theorem elemRel : Elem relK 39 58 :=
  ⟨Try.underlying39, ⟨.agg #[.string ⟨#[]⟩, .bool false], 24, by kernel_rfl, by rfl, by decide, by decide⟩, by decide, by
    rintro w cs x ⟨rfl, _⟩ u hu
    simp at hu
    rcases hu with rfl | rfl <;> rfl⟩
def box0 (v : Value) : Obj := .cells #[.string ⟨#[]⟩, .int .i64 0, v, .slice none 0 0, .slice none 0 0, .slice none 0 0, .slice none 0 0, .slice none 0 0] 45 (0, 0)
structure RowSt (w0 w : World) (v : Value) (l : List Rel) : Prop where
  bel : Below w0.heap.size w0 w
  box : w.heap[w0.heap.size]? = some (.cells #[.string ⟨#[]⟩, .int .i64 0, v, .slice none 0 0, .slice none 0 0, .slice none 0 0, .slice none 0 0, .slice none 0 0] 45 (0, 0))
  own : OwnK relK 58 w0 w w0.heap.size v l
section
variable {w0 w : World} {v : Value} {l : List Rel}
theorem RowSt.step {w' : World} (h : RowSt w0 w v l) (hb : Below w.heap.size w w') : RowSt w0 w' v l := ⟨h.bel.trans (hb.mono h.bel.size), heap_below h.box hb, h.own.below hb⟩
theorem RowSt.alloc (h : RowSt w0 w v l) (o : Obj) : RowSt w0 (w.alloc o) v l := h.step (below_alloc' w o)
theorem RowSt.touch {w' : World} {S : Nat → Prop} (h : RowSt w0 w v l) (ht : Touch w w' S) (hS : ∀ i, S i → w0.heap.size < i ∧ v.ownBlock ≠ some i) : RowSt w0 w' v l :=
  ⟨Touch.belows h.bel ht (Nat.le_refl _) (fun i hi => by have := (hS i hi).1; omega), heap_touch h.box ht (fun hs => by have := (hS _ hs).1; omega), h.own.touch ht (fun g e hs => (hS g hs).2 e)⟩
theorem RowSt.apart (h : RowSt w0 w v l) {g : Nat} {cs : Array Value} {t : TypeId} {f : Nat × Nat} (hg : w.heap[g]? = some (.cells cs t f)) (hne : 58 ≠ t) : v.ownBlock ≠ some g := by
  obtain ⟨css, _, h2⟩ := h.own
  exact own_apart h2 hg hne
theorem RowSt.push {w3 : World} {x : Rel} {v' : Value} (h : RowSt w0 w v l) (X : Obj) (hown : OwnK relK 58 w0 w3 w0.heap.size v' (l ++ [x])) (hg : (w.alloc X).grownBy w3 v.ownBlock) :
    RowSt w0 (w3.setCell ⟨w0.heap.size, 2, none⟩ v') v' (l ++ [x]) ∧ w3.heap[w0.heap.size]? = some (.cells #[.string ⟨#[]⟩, .int .i64 0, v, .slice none 0 0, .slice none 0 0, .slice none 0 0, .slice none 0 0, .slice none 0 0] 45 (0, 0)) := by
  have ha := h.alloc X
  have a0 := ha.apart ha.box (by decide)
  have e0 := heap_grown ha.box hg (Ne.symm a0)
  have hs := cells_set e0 2 v'
  have tt : Touch w3 (w3.setCell ⟨w0.heap.size, 2, none⟩ v') (fun i => i = w0.heap.size) := (Touch.refl w3 _).set _ 2 v' rfl
  refine ⟨⟨?_, by simpa using hs, hown.touch tt (fun g e e2 => ?_)⟩, e0⟩
  · refine ((ha.bel.grown hg ha.bel.size (fun k e => (ha.own.lt k e).1))).grown (grown_set w3 _ 2 v') ?_ (fun k e => by cases e; omega)
    have := hg.size
    have := ha.bel.size
    omega
  · subst e2
    obtain ⟨css, _, h2⟩ := hown
    exact own_apart h2 e0 (by decide) e
theorem RowSt.sl (h : RowSt w0 w v l) : ∃ A L c, v = .slice A L c := h.own.sl
theorem RowSt.pkg {ls : List ByteArray} (h : RowSt w0 w v (rels0 ls)) : IsPkg w v (.slice none 0 0) (.slice none 0 0) (.slice none 0 0) (.slice none 0 0) (.slice none 0 0) (rowPkg ls) :=
  ⟨show (0 : Nat) ≤ maxLen by decide, show (Lit.int .i64 0).wf = true by decide, h.own.row h.bel, RowD.nil w, RowD.nil w, RowD.nil w, RowD.nil w, RowD.nil w⟩
end
def falses (n : Nat) : Array Value := (List.replicate n (Value.bool false)).toArray
theorem bool_info : (Try.prog.info? 4).map (fun i => (i.zero, i.size, i.bytes)) = some (some (.bool false), 1, 1) := by kernel_rfl
theorem info_parts' {P : Program} {t : TypeId} {z : Value} {s b : Nat} (h : (P.info? t).map (fun i => (i.zero, i.size, i.bytes)) = some (some z, s, b)) : ∃ i, P.info? t = some i ∧ i.zero = some z ∧ i.size = s ∧ i.bytes = b := by
  cases e : P.info? t with
  | none => rw [e] at h; cases h
  | some i => rw [e] at h; simp at h; exact ⟨i, rfl, h.1, h.2.1, h.2.2⟩
theorem make_bools (n : Nat) (hn : n ≤ 65537) (x : Int) (hx : x = n) (W : World) : (Instr.makeSlice 59 (.int .i64 x) (.int .i64 x)).run Try.prog W = .ok (.slice (some ⟨W.heap.size, 0, none⟩) n n) (W.alloc (.cells (falses n) 4)) := by
  subst hx
  obtain ⟨i0, hi0, hz0, hz1, hz2⟩ := info_parts' bool_info
  rw [run_make (P := Try.prog) W 59 4 i0 _ Try.underlying59 hi0 hz0 .i64 .i64 n n (by omega) (by omega) (by rw [hz2]; omega) (by omega), hz1]
  have e : madeCells (Value.bool false).cells n = falses n := by
    apply Array.ext'
    have := toList_madeCells_one (.bool false) n
    rw [show (Value.bool false).cells = #[.bool false] from rfl, this]
    simp [falses]
  simp [e]
theorem falses_seen (l : List ByteArray) : Seen l 0 (falses l.length) := ⟨by simp [falses], fun j hj => by rw [seenB_zero]; simp [falses, hj]⟩

def AnyB (w : World) (e : Ending) (w' : World) : Prop := ∃ b, e = .returned (.bool b) ∧ w = w'
set_option maxRecDepth 100000 in
theorem great01_any (w : World) (A : Option Addr) (L c : Nat) (l : List ByteArray) (h : RowD strK w (.slice A L c) l) :
    Calls Try.prog 21 #[.slice A L c] w (AnyB w) := by
  have H := Lib.hid h
  have hc := h.cap
  clear h
  go_enter Try.func21, Try.ntmps21
  go_wp2
  go_loop [3, 7] (fun t i => ∃ k s : Nat, k ≤ L ∧ i = .int .i64 k ∧ t = .int .i64 s ∧ s ≤ 9000) (fun _ i => L - (intOf i).toNat)
  case atStart => exact ⟨0, 0, Nat.zero_le _, rfl, rfl, by omega⟩
  case round =>
    obtain ⟨k, s, hk, rfl, rfl, hs⟩ := hrel
    by_cases hlt : k < L
    · obtain ⟨b, off, rfl, hb, hz, c0⟩ := str_at H.out hlt
      obtain ⟨z, hz'⟩ : ∃ z, nth l k = z := ⟨_, rfl⟩
      rw [hz'] at c0 hz
      unfold maxLen at hz
      clear hb hz'
      go_wp2
      all_goals first
        | (go_ret; exact ⟨true, rfl, rfl⟩)
        | (go_round
           case rel => exact ⟨k + 1, s + (1 + min z.size 9000), by omega, by go_num, by rw [show ((s : Int) + (1 + min (z.size : Int) 9000)) = ((s + (1 + min z.size 9000) : Nat) : Int) by omega], by omega⟩
           case measure => simp [intOf]; omega)
    · obtain rfl : k = L := by omega
      go_wp2
      go_ret
      exact ⟨false, rfl, rfl⟩
end Go.Proofs.Ytggejmojbebhfaa.Rc

/- Prefer, both: a package's place among those that are preferred. -/
namespace Go.Proofs.Ytggejmojbebhfaa.Rc
open Go.RowKit

def virtN (x : Pref) (s : ByteArray) : Bool := eqS x.virt s
theorem npref1_any (w : World) (v1 : Value) (x : Pref) (s : ByteArray) (P : Nat) (hP : w.cell? ⟨P, 0, none⟩ = some (.string s)) :
    Calls Try.prog 53 #[.agg #[.string x.virt, v1, .int .i64 x.line], .pointer (some ⟨P, 0, none⟩)] w fun e w' => e = .returned (.bool (virtN x s)) ∧ Below w.heap.size w w' := by
  have hb0 := below_alloc' w (.cells #[.string x.virt, v1, .int .i64 x.line] 63)
  have hlt := World.block_lt_of_cell? w _ hP
  have hc1 := (hb0.cell (p := ⟨P, 0, none⟩) hlt).trans hP
  have hPn : ¬ P = w.heap.size := by simp at hlt; omega
  have HB := Lib.hid hb0
  clear hb0 hP
  go_enter Try.func53, Try.ntmps53
  go_wp2
  refine bodyPost_ret (v := .bool (virtN x s)) (by simp [results, Try.results53, go_sem, virtN, eqS, Va.eqS]) rfl ⟨rfl, HB.out⟩

set_option maxRecDepth 100000 in
set_option maxHeartbeats 1600000 in
theorem idx_npref (w : World) (v : Value) (l : List Pref) (s : ByteArray) (P : Nat) (h : RowD prefK w v l) (hP0 : w.cell? ⟨P, 0, none⟩ = some (.string s)) :
    Calls Try.prog 52 #[v, .func (.func 53) #[] #[.pointer (some ⟨P, 0, none⟩)]] w fun e w' => e = .returned (.int .i64 (idx (fun x => virtN x s) l)) ∧ Below w.heap.size w w' := by
  obtain ⟨A, L, c, rfl, hL, h1, h2⟩ := h.open'
  unfold maxLen at h2
  have H := Lib.hid h
  have HL := Lib.hid hL
  have HP0 := Lib.hid hP0
  have hlp := World.block_lt_of_cell? w _ hP0
  clear h hL hP0
  go_enter Try.func52, Try.ntmps52
  go_wp2
  go_loopw [8] (fun i wr => ∃ k : Nat, k ≤ L ∧ i = .int .i64 k ∧ Hid ((l.take k).any (fun x => virtN x s) = false) ∧ Below w.heap.size w wr) (fun i _ => L - (intOf i).toNat)
  case atStart => exact ⟨0, Nat.zero_le _, rfl, Lib.hid (by simp), Below.refl _ _⟩
  case round =>
    obtain ⟨k, hk, rfl, hall, hbw⟩ := hrel
    have HBW := Lib.hid hbw
    by_cases hlt : k < L
    · obtain ⟨b, off, v1, rfl, hb, hs, hr, hw, c0, c1, c2⟩ := pref_at (H.out.below hbw (Nat.le_refl _)) hlt
      have qP0 := Lib.hid ((hbw.cell (p := ⟨P, 0, none⟩) hlp).trans HP0.out)
      have hkl : k < l.length := by rw [← HL.out]; exact hlt
      have HS := Lib.hid (any_snoc hkl (fun x => virtN x s))
      clear hs hr hw
      clear hbw
      go_wp2_with fail
      refine (npref1_any _ _ _ _ P  qP0.out).mono ?_
      rintro e w1 ⟨rfl, hb1⟩
      have HB1 := Lib.hid (HBW.out.trans (hb1.mono HBW.out.size))
      clear hb1
      cases he : virtN (nth l k) s with
      | true =>
        have Hv := Lib.hid (idx_hit hkl hall.out (p := (fun x => virtN x s)) he)
        clear he hkl
        go_wp2
        go_ret
        exact ⟨ret_int Hv.out.symm, HB1.out⟩
      | false =>
        have hn : Hid ((l.take (k + 1)).any (fun x => virtN x s) = false) := Lib.hid (by rw [HS.out, hall.out]; simpa using he)
        clear he hkl
        go_wp2
        go_roundw
        case rel => exact ⟨k + 1, by omega, by go_num, hn, HB1.out⟩
        case measure => simp [intOf]; omega
    · obtain rfl : k = L := by omega
      have Hv := Lib.hid (show idx (fun x => virtN x s) l = -1 from idx_miss (by
        have := hall.out
        rwa [HL.out, List.take_length] at this))
      clear hbw
      go_wp2
      go_ret
      exact ⟨ret_int Hv.out.symm, HBW.out⟩



def txtIs (s y : ByteArray) : Bool := eqS y s
def inRow (l : List ByteArray) (s : ByteArray) : Int := if l.any (txtIs s) then idx (txtIs s) l else l.length
theorem inRow_yes {l : List ByteArray} {s : ByteArray} (h : l.any (txtIs s) = true) : inRow l s = idx (txtIs s) l := by unfold inRow; rw [if_pos h]
theorem inRow_no {l : List ByteArray} {s : ByteArray} (h : l.any (txtIs s) = false) : inRow l s = l.length := by unfold inRow; rw [h]; rfl
def prefR (x : Rec) (v s : ByteArray) : Int := if x.prefs.any (fun f => virtN f v) then inRow (nth x.prefs (idx (fun f => virtN f v) x.prefs).toNat).names s else 0
theorem prefR_no {x : Rec} {v s : ByteArray} (h : x.prefs.any (fun f => virtN f v) = false) : prefR x v s = 0 := by unfold prefR; rw [h]; rfl
theorem prefR_at {x : Rec} {v s : ByteArray} {k : Nat} (h : x.prefs.any (fun f => virtN f v) = true) (hk : idx (fun f => virtN f v) x.prefs = k) : prefR x v s = inRow (nth x.prefs k).names s := by unfold prefR; rw [h, hk]; rfl

set_option maxHeartbeats 800000 in
theorem indexS_any (w : World) (v : Value) (l : List ByteArray) (s : ByteArray) (h : RowD strK w v l) :
    Calls Try.prog 54 #[v, .string s] w fun e w' => e = .returned (.int .i64 (idx (txtIs s) l)) ∧ w = w' := by
  obtain ⟨A, L, c, rfl⟩ := h.sl
  have H := Lib.hid h
  have HL := Lib.hid h.len
  have hc := h.cap
  clear h
  go_enter Try.func54, Try.ntmps54
  go_wp2
  go_loop [8] (fun i => ∃ k : Nat, k ≤ L ∧ i = .int .i64 k ∧ Hid ((l.take k).any (txtIs s) = false)) (fun i => L - (intOf i).toNat)
  case atStart => exact ⟨0, Nat.zero_le _, rfl, Lib.hid (by simp)⟩
  case round =>
    obtain ⟨k, hk, rfl, HN⟩ := hrel
    by_cases hlt : k < L
    · have HKL := Lib.hid (show k < l.length by rw [← HL.out]; exact hlt)
      obtain ⟨b, off, rfl, hb, hz, c0⟩ := str_at H.out hlt
      obtain ⟨y, hy⟩ : ∃ y, nth l k = y := ⟨_, rfl⟩
      rw [hy] at c0
      have HY := Lib.hid hy
      clear hy hb hz
      obtain ⟨q, hq⟩ : ∃ q, txtIs s y = q := ⟨_, rfl⟩
      have HQ := Lib.hid hq
      have e1 : (s.toList == y.toList) = q := (Va.eqS_comm _ _).trans hq
      clear hq
      cases q with
      | true =>
        have HV := Lib.hid (idx_hit HKL.out HN.out (p := txtIs s) (by rw [HY.out]; exact HQ.out))
        go_wp2
        go_ret
        exact ⟨ret_int HV.out.symm, rfl⟩
      | false =>
        have hn := Lib.hid (show (l.take (k + 1)).any (txtIs s) = false by rw [any_snoc HKL.out, HN.out, HY.out, HQ.out]; rfl)
        go_wp2
        go_round
        case rel => exact ⟨k + 1, by omega, by go_num, hn⟩
        case measure => simp [intOf]; omega
    · obtain rfl : k = L := by omega
      have HV := Lib.hid (show idx (txtIs s) l = -1 from idx_miss (by
        have := HN.out
        rwa [HL.out, List.take_length] at this))
      go_wp2
      go_ret
      exact ⟨ret_int HV.out.symm, rfl⟩


set_option maxRecDepth 100000 in
set_option maxHeartbeats 1600000 in
theorem prefer10_is (w : World) (v1 v2 : Value) (x : Rec) (v s : ByteArray) (h : IsRec w v1 v2 x) (n : Int) (hn : prefR x v s = n) :
    Calls Try.prog 25 #[.agg #[v1, v2], .string v, .string s] w fun e w' => e = .returned (.int .i64 n) ∧ Below w.heap.size w w' := by
  obtain ⟨A1, L1, c1, A2, L2, c2, rfl, rfl, hL1, hL2, hc1, hm1, hc2, hm2⟩ := rec_box h
  have HX := Lib.hid (Bxs.two w #[.slice A1 L1 c1, .slice A2 L2 c2] 25 #[.string v] 9)
  have HR := Lib.hid h
  have HN := Lib.hid hn
  obtain ⟨r, hr⟩ : ∃ r, idx (fun f => virtN f v) x.prefs = r := ⟨_, rfl⟩
  have HRR := Lib.hid hr
  have HC := Lib.hid (idx_npref _ _ x.prefs v (w.heap.size + 1) (HR.out.prefs.below HX.out.bel (Nat.le_refl _)) (HX.out.get 1 0 (v := .string v) rfl rfl))
  rw [hr] at HC
  have hnn : decide (0 ≤ r) = x.prefs.any (fun f => virtN f v) := by rw [← hr]; exact idx_any (fun f => virtN f v) x.prefs
  obtain ⟨b, hb⟩ : ∃ b, x.prefs.any (fun f => virtN f v) = b := ⟨_, rfl⟩
  rw [hb] at hnn
  have HB := Lib.hid hb
  have x1 := HX.out.get0 1 (v := .slice A2 L2 c2) rfl rfl
  cases b with
  | false =>
    have hlt : r < 0 := by simpa using hnn
    have HV := Lib.hid (show n = 0 by rw [← HN.out, prefR_no HB.out])
    clear h hn hr hnn hb hL1 hL2
    go_enter Try.func25, Try.ntmps25
    go_wp2_with fail
    refine HC.out.mono ?_
    rintro e w1 ⟨rfl, hb1⟩
    have HX1 := Lib.hid (HX.out.step hb1)
    clear hb1 x1
    go_wp2
    go_ret
    exact ⟨ret_int HV.out.symm, HX1.out.bel⟩
  | true =>
    have hge : 0 ≤ r := by simpa using hnn
    obtain ⟨k, hk, hkl, hkp⟩ := idx_at (p := fun f => virtN f v) (l := x.prefs) (by rw [hr]; exact hge)
    obtain rfl : r = (k : Int) := hr.symm.trans hk
    have hkL : k < L2 := by omega
    have HV := Lib.hid (prefR_at (s := s) HB.out hk)
    have hlt : ¬ (k : Int) < 0 := by omega
    have HKL := Lib.hid hkL
    clear h hn hr hnn hb hL1 hL2 hkp hkl hk hge
    go_enter Try.func25, Try.ntmps25
    go_wp2_with fail
    refine HC.out.mono ?_
    rintro e w1 ⟨rfl, hb1⟩
    have HX1 := Lib.hid (HX.out.step hb1)
    obtain ⟨bb, off, u, rfl, hbl, hs, hrw, hw, p0, p1, p2⟩ := pref_at (HR.out.prefs.below HX1.out.bel (Nat.le_refl _)) HKL.out
    obtain ⟨B, M, d, rfl⟩ := hrw.sl
    have HF := Lib.hid hrw
    have HM := Lib.hid hrw.len
    clear hb1 x1 hs hw hbl hrw
    have x1 := HX1.out.get0 1 (v := .slice (some ⟨bb, off, none⟩) L2 c2) rfl rfl
    have k0 : (0 : Int) ≤ (k : Int) := by omega
    have k1 : (k : Int) < (L2 : Int) := by omega
    obtain ⟨m, hm⟩ : ∃ m, idx (txtIs s) (nth x.prefs k).names = m := ⟨_, rfl⟩
    have HI := Lib.hid (indexS_any w1 _ _ s HF.out)
    rw [hm] at HI
    have hmm : decide (0 ≤ m) = (nth x.prefs k).names.any (txtIs s) := by rw [← hm]; exact idx_any (txtIs s) (nth x.prefs k).names
    obtain ⟨q, hq⟩ : ∃ q, (nth x.prefs k).names.any (txtIs s) = q := ⟨_, rfl⟩
    rw [hq] at hmm
    cases q with
    | true =>
      have HV2 := Lib.hid (show n = m by rw [← HN.out, HV.out, inRow_yes hq, hm])
      have hm0 : 0 ≤ m := by simpa using hmm
      clear hq hm hmm
      go_wp2_with fail
      refine HI.out.mono ?_
      rintro e w2 ⟨rfl, rfl⟩
      go_wp2
      go_ret
      exact ⟨ret_int HV2.out.symm, HX1.out.bel⟩
    | false =>
      have HV2 := Lib.hid (show n = (M : Int) by rw [← HN.out, HV.out, inRow_no hq, HM.out])
      have hm0 : ¬ 0 ≤ m := by simpa using hmm
      clear hq hm hmm
      go_wp2_with fail
      refine HI.out.mono ?_
      rintro e w2 ⟨rfl, rfl⟩
      go_wp2
      go_ret
      exact ⟨ret_int HV2.out.symm, HX1.out.bel⟩


set_option maxRecDepth 100000 in
set_option maxHeartbeats 1600000 in
theorem refPrefer10_is (w : World) (v1 v2 : Value) (x : Rec) (v s : ByteArray) (h : IsRec w v1 v2 x) (n : Int) (hn : prefR x v s = n) :
    Calls Try.prog 26 #[.agg #[v1, v2], .string v, .string s] w fun e w' => e = .returned (.int .i64 n) ∧ Below w.heap.size w w' := by
  obtain ⟨A1, L1, c1, A2, L2, c2, rfl, rfl, hL1, hL2, hc1, hm1, hc2, hm2⟩ := rec_box h
  have hx := Bxs.one w #[.slice A1 L1 c1, .slice A2 L2 c2] 25
  have HX := Lib.hid hx
  have HR := Lib.hid (h.below hx.bel (Nat.le_refl _))
  have HN := Lib.hid hn
  have HL := Lib.hid hL2
  have x1 := hx.get0 1 (v := .slice A2 L2 c2) rfl rfl
  clear h hn hL1 hL2 hx
  go_enter Try.func26, Try.ntmps26
  go_wp2
  go_loop [13] (fun i => ∃ k : Nat, k ≤ L2 ∧ i = .int .i64 k ∧ Hid ((x.prefs.take k).any (fun f => virtN f v) = false)) (fun i => L2 - (intOf i).toNat)
  case atStart => exact ⟨0, Nat.zero_le _, rfl, Lib.hid (by simp)⟩
  case round =>
    obtain ⟨k, hk, rfl, HA⟩ := hrel
    by_cases hlt : k < L2
    · have HKL := Lib.hid (show k < x.prefs.length by rw [← HL.out]; exact hlt)
      obtain ⟨bb, off, u, rfl, hbl, hs, hrw, hw, p0, p1, p2⟩ := pref_at HR.out.prefs hlt
      obtain ⟨B, M, d, rfl⟩ := hrw.sl
      have HF := Lib.hid hrw
      have HM := Lib.hid hrw.len
      have hcp := hrw.cap
      obtain ⟨f, hf⟩ : ∃ f, nth x.prefs k = f := ⟨_, rfl⟩
      rw [hf] at p0 p2 HF HM
      have HFF := Lib.hid hf
      obtain ⟨q, hq⟩ : ∃ q, virtN f v = q := ⟨_, rfl⟩
      have e1 : (f.virt.toList == v.toList) = q := hq
      have HQ := Lib.hid hq
      clear hs hw hbl hrw hf hq
      cases q with
      | false =>
        have HA2 := Lib.hid (show (x.prefs.take (k + 1)).any (fun f => virtN f v) = false by rw [any_snoc HKL.out, HA.out, HFF.out, HQ.out]; rfl)
        go_wp2
        go_round
        case rel => exact ⟨k + 1, by omega, by go_num, HA2⟩
        case measure => simp [intOf]; omega
      | true =>
        have hv : virtN (nth x.prefs k) v = true := by rw [HFF.out]; exact HQ.out
        have HV := Lib.hid (show n = inRow f.names s by rw [← HN.out, prefR_at (any_at HKL.out (p := fun f => virtN f v) hv) (idx_hit HKL.out HA.out (p := fun f => virtN f v) hv), HFF.out])
        clear hv
        go_wp2
        go_loop [32] (fun i => ∃ m : Nat, m ≤ M ∧ i = .int .i64 m ∧ Hid ((f.names.take m).any (txtIs s) = false)) (fun i => M - (intOf i).toNat)
        case atStart => exact ⟨0, Nat.zero_le _, rfl, Lib.hid (by simp)⟩
        case round =>
          obtain ⟨m, hm, rfl, HB⟩ := hrel
          by_cases hlm : m < M
          · have HML := Lib.hid (show m < f.names.length by rw [← HM.out]; exact hlm)
            obtain ⟨b2, off2, rfl, hb2, hz2, c0⟩ := str_at HF.out hlm
            obtain ⟨y, hy⟩ : ∃ y, nth f.names m = y := ⟨_, rfl⟩
            rw [hy] at c0
            have HY := Lib.hid hy
            obtain ⟨q, hq⟩ : ∃ q, txtIs s y = q := ⟨_, rfl⟩
            have HQ2 := Lib.hid hq
            have e2 : (y.toList == s.toList) = q := hq
            clear hy hb2 hz2 hq
            cases q with
            | true =>
              have hv : txtIs s (nth f.names m) = true := by rw [HY.out]; exact HQ2.out
              have HV2 := Lib.hid (show n = m by rw [HV.out, inRow_yes (any_at HML.out (p := txtIs s) hv), idx_hit HML.out HB.out (p := txtIs s) hv])
              clear hv
              go_wp2
              go_ret
              exact ⟨ret_int HV2.out.symm, HX.out.bel⟩
            | false =>
              have HB2 := Lib.hid (show (f.names.take (m + 1)).any (txtIs s) = false by rw [any_snoc HML.out, HB.out, HY.out, HQ2.out]; rfl)
              go_wp2
              go_round
              case rel => exact ⟨m + 1, by omega, by go_num, HB2⟩
              case measure => simp [intOf]; omega
          · obtain rfl : m = M := by omega
            have HV2 := Lib.hid (show n = (m : Int) by rw [HV.out, inRow_no (by have := HB.out; rwa [HM.out, List.take_length] at this), HM.out])
            go_wp2
            go_ret
            exact ⟨ret_int HV2.out.symm, HX.out.bel⟩
    · obtain rfl : k = L2 := by omega
      have HV := Lib.hid (show n = 0 by rw [← HN.out, prefR_no (by have := HA.out; rwa [HL.out, List.take_length] at this)])
      go_wp2
      go_ret
      exact ⟨ret_int HV.out.symm, HX.out.bel⟩
end Go.Proofs.Ytggejmojbebhfaa.Rc

/- Two rows of the same numbers. -/
namespace Go.Proofs.Ytggejmojbebhfaa.Rc
open Go.RowKit Go.Sort

set_option maxRecDepth 100000 in
theorem same10_is (w : World) (v u : Value) (l : List Int) (h : RowD intK w v l) (h2 : RowD intK w u l) :
    Calls Try.prog 27 #[v, u] w fun e w' => e = .returned (.bool true) ∧ Below w.heap.size w w' := by
  obtain ⟨A, L, c, rfl⟩ := h.sl
  obtain ⟨B, M, d, rfl⟩ := h2.sl
  obtain rfl : L = M := h.len.trans h2.len.symm
  have H := Lib.hid h
  have H2 := Lib.hid h2
  have hc := h.cap
  have HB := Lib.hid (Below.refl w.heap.size w)
  clear h h2
  go_enter Try.func27, Try.ntmps27
  go_wp2
  go_loopw [13] (fun i wr => ∃ k : Nat, k ≤ L ∧ i = .int .i64 k ∧ Below w.heap.size w wr) (fun i _ => L - (intOf i).toNat)
  case atStart => exact ⟨0, Nat.zero_le _, rfl, HB.out⟩
  case round =>
    obtain ⟨k, hk, rfl, hbw⟩ := hrel
    have HBW := Lib.hid hbw
    by_cases hlt : k < L
    · obtain ⟨b3, o3, rfl, hb3, _, d3⟩ := int_at (H.out.below hbw (Nat.le_refl _)) hlt
      obtain ⟨b4, o4, rfl, hb4, _, d4⟩ := int_at (H2.out.below hbw (Nat.le_refl _)) hlt
      have g0 : (0 : Int) ≤ (k : Int) := by omega
      have g1 : (k : Int) < (L : Int) := by omega
      clear hbw
      go_wp2_with fail
      go_quiet (fail)
      go_wp2
      go_roundw
      case rel => exact ⟨k + 1, by omega, by go_num, below_draws HBW.out _⟩
      case measure => simp [intOf]; omega
    · obtain rfl : k = L := by omega
      go_wp2
      go_ret
      exact ⟨rfl, HBW.out⟩
theorem targs_wf {w : World} {x : Rec} {s : ByteArray} (hl : x.pkgs.length ≤ 1000) : ∀ n ∈ targs x s, intK.is w [encI n] n := fun n hn => ⟨rfl, wf_small (targs_range hn).1 (by have := (targs_range hn).2; omega)⟩
theorem three_row {w : World} {X : Nat} {a b c : ByteArray} (h : w.heap[X]? = some (.cells #[.string a, .string b, .string c] 9 (0, 0))) (ha : a.size ≤ maxLen) (hb : b.size ≤ maxLen) (hc : c.size ≤ maxLen) : RowD strK w (.slice (some ⟨X, 0, none⟩) 3 3) [a, b, c] :=
  RowD.of_heap (l := [a, b, c]) rfl h (by decide) fun j hj => by
    match j, hj with
    | 0, _ => exact ⟨[.string a], ⟨rfl, ha⟩, fun i hi => by have : i < 1 := hi; have e : i = 0 := (by omega); subst e; rfl⟩
    | 1, _ => exact ⟨[.string b], ⟨rfl, hb⟩, fun i hi => by have : i < 1 := hi; have e : i = 0 := (by omega); subst e; rfl⟩
    | 2, _ => exact ⟨[.string c], ⟨rfl, hc⟩, fun i hi => by have : i < 1 := hi; have e : i = 0 := (by omega); subst e; rfl⟩
end Go.Proofs.Ytggejmojbebhfaa.Rc

/- NeedsRanks' walk. -/
namespace Go.Proofs.Ytggejmojbebhfaa.Rc
open Go.RowKit Go.Sort
theorem InBox.drew {w0 w1 : World} {v1 v2 : Value} {B : Nat} {x : Rec} (h : InBox w0 w1 v1 v2 B x) : InBox w0 w1.drew v1 v2 B x := ⟨h.box.drewN 1, h.isr0⟩

set_option maxRecDepth 100000 in
set_option maxHeartbeats 6400000 in
theorem needsRanks_any (w : World) (v1 v2 : Value) (x : Rec) (i : Int) (ver virt name : ByteArray) (s1 : ver.size ≤ maxLen) (s2 : virt.size ≤ maxLen) (s3 : name.size ≤ maxLen) (h : IsRec w v1 v2 x) :
    Calls Try.prog 6 #[.agg #[v1, v2], .int .i64 i, .string ver, .string virt, .string name] w fun e w' => e = .returned (.bool true) ∧ Below w.heap.size w w' := by
  have HI := Lib.hid (InBox.new h)
  obtain ⟨A1, L1, c1, A2, L2, c2, rfl, rfl, hL1, hr⟩ := rec_box h
  have HS := Lib.hid (show ver.size ≤ maxLen ∧ virt.size ≤ maxLen ∧ name.size ≤ maxLen from ⟨s1, s2, s3⟩)
  have HL1 := Lib.hid hL1
  clear hr h s1 s2 s3 hL1
  go_enter Try.func6, Try.ntmps6
  go_wp2_with fail
  refine (great07_any _ _ _ x HI.out.isr).mono ?_
  rintro e w1 ⟨b, rfl, hs, hb⟩
  have HI1 := Lib.hid (HI.out.step hb)
  have HSM := Lib.hid hs
  clear hb hs
  cases b with
  | true =>
    go_wp2_with fail
    refine (fixed10_any _).mono ?_
    rintro e w9 ⟨rfl, hb9⟩
    have HB := Lib.hid (Below.trans HI1.out.bel (hb9.mono (Below.size HI1.out.bel)))
    clear hb9
    go_wp2
    go_ret
    exact ⟨rfl, HB.out⟩
  | false =>
    have HL := Lib.hid (Nat.le_trans (HSM.out (by trivial)).pkgs (show 30 ≤ 1000 by omega))
    go_wp2_with fail
    refine (great01_any _ _ _ _ [ver, virt, name] (three_row (heap_alloc_new w1 _) HS.out.1 HS.out.2.1 HS.out.2.2)).mono ?_
    rintro e w2 ⟨b, rfl, rfl⟩
    have HI3 := Lib.hid (HI1.out.alloc (.cells #[.string ver, .string virt, .string name] 9))
    obtain ⟨n, hn⟩ : ∃ n, prefR x virt name = n := ⟨_, rfl⟩
    have HN := Lib.hid hn
    clear hn
    cases b with
    | true =>
      go_wp2_with fail
      refine (fixed10_any _).mono ?_
      rintro e w9 ⟨rfl, hb9⟩
      have HB := Lib.hid (Below.trans HI3.out.bel (hb9.mono (Below.size HI3.out.bel)))
      clear hb9
      go_wp2
      go_ret
      exact ⟨rfl, HB.out⟩
    | false =>
    generalize hW3 : w1.alloc (.cells #[.string ver, .string virt, .string name] 9) = W3 at HI3 ⊢
    clear hW3
    by_cases hi : 0 ≤ i
    · by_cases hi2 : i < (L1 : Int)
      · skip
        obtain ⟨k, rfl⟩ : ∃ k : Nat, i = (k : Int) := ⟨i.toNat, by omega⟩
        have hk : k < L1 := by omega
        obtain ⟨b, off, v1, v2, v3, v4, v5, v6, rfl, hb, hp, d0, d1, d2, d3, d4, d5, d6, d7⟩ := pkg_at HI3.out.isr.pkgs hk
        have i0 : (0 : Int) ≤ (k : Int) := by omega
        have i1 : (k : Int) < (L1 : Int) := by omega
        obtain ⟨r, hr⟩ : ∃ r, rankI (nth x.pkgs k) ver = r := ⟨_, rfl⟩
        have HRK := Lib.hid hr
        have HP := Lib.hid hp
        have q0 := cell_regrown d0
        have q1 := cell_regrown d1
        have q2 := cell_regrown d2
        have q3 := cell_regrown d3
        have q4 := cell_regrown d4
        have q5 := cell_regrown d5
        have q6 := cell_regrown d6
        have q7 := cell_regrown d7
        have C1 := Lib.hid (show ∀ d os, Calls Try.prog 23 #[.agg #[.string (nth x.pkgs k).name, .int .i64 (nth x.pkgs k).line, v1, v2, v3, v4, v5, v6], .string ver] (grow (redrawn W3 d) os) fun e w'' => e = .returned (.int .i64 r) ∧ ∃ p : Regrown, w'' = grow (redrawn W3 p.d) p.os from
          fun d os => Calls.regrown_of (rank_is _ _ _ _ _ _ _ _ ver (HP.out.below (below_regrown W3 d os) (Nat.le_refl _)) r HRK.out))
        have C2 := Lib.hid (show ∀ d os, Calls Try.prog 24 #[.agg #[.string (nth x.pkgs k).name, .int .i64 (nth x.pkgs k).line, v1, v2, v3, v4, v5, v6], .string ver] (grow (redrawn W3 d) os) fun e w'' => e = .returned (.int .i64 r) ∧ ∃ p : Regrown, w'' = grow (redrawn W3 p.d) p.os from
          fun d os => Calls.regrown_of (refRank_is _ _ _ _ _ _ _ _ ver (HP.out.below (below_regrown W3 d os) (Nat.le_refl _)) r HRK.out))
        clear hi hi2 hb hp hr d0 d1 d2 d3 d4 d5 d6 d7 hk
        have x0 := cell_regrown HI3.out.c0
        have x1 := cell_regrown HI3.out.c1
        go_wp2_with fail
        refine wp_region_quiet_below (by kernel_rfl) (by kernel_rfl) ?_
        repeat (go_big_quiet_step ((first | (go_at_call 23; with_reducible exact C1.out _ _) | (go_at_call 24; with_reducible exact C2.out _ _))))
        refine wpQuiet_nil ?_
        intro _ hw'
        obtain ⟨⟨dq, osq⟩, hw''⟩ := hw'
        subst hw''
        have HII := HI3.out.step (below_regrown W3 dq osq)
        generalize grow (redrawn W3 dq) osq = WW at HII ⊢
        clear x0 x1
        clear q0 q1 q2 q3 q4 q5 q6 q7

        have HJ10 : Hid (InBox w WW (.slice (some ⟨b, off, none⟩) L1 c1) (.slice A2 L2 c2) w.heap.size x) := Lib.hid HII
        have x0 := HJ10.out.c0
        have x1 := HJ10.out.c1
        go_wp2_with fail
        go_region_held3 (fun w' => w'.cell? ⟨w.heap.size, 0, none⟩ = some (.slice (some ⟨b, off, none⟩) L1 c1) ∧ w'.cell? ⟨w.heap.size, 1, none⟩ = some (.slice A2 L2 c2)) (go_keep) ((first | (go_at_call 27; refine (same10_is _ _ _ (targs x name) (by first | exact HO33.out.row (K := intK) rfl (targs_wf HL.out) | exact HO33.out.drew.row (K := intK) rfl (targs_wf HL.out)) (by first | exact HO4.out.row (K := intK) rfl (targs_wf HL.out) | exact HO4.out.drew.row (K := intK) rfl (targs_wf HL.out))).mono ?_; rintro e w16 ⟨rfl, hb16⟩; have HJ16 : Hid (InBox w w16 (.slice (some ⟨b, off, none⟩) L1 c1) (.slice A2 L2 c2) w.heap.size x) := Lib.hid (by first | exact HJ15.out.step hb16 | exact HJ15.out.drew.step hb16); have a16_0 := HJ16.out.c0; have a16_1 := HJ16.out.c1; clear hb16) | (go_at_call 29; refine (refTargets_any _ _ _ x name (by first | exact HJ14.out.isr | exact HJ14.out.drew.isr) HL.out).mono ?_; rintro e w15 ⟨A4, L4, c4, rfl, hown4, hb15⟩; have HJ15 : Hid (InBox w w15 (.slice (some ⟨b, off, none⟩) L1 c1) (.slice A2 L2 c2) w.heap.size x) := Lib.hid (by first | exact HJ14.out.step hb15 | exact HJ14.out.drew.step hb15); have HO4 : Hid (OwnI w15 w.heap.size (.slice A4 L4 c4) (targs x name)) := Lib.hid (by first | exact hown4.base HJ14.out.bel.size | exact hown4.base HJ14.out.drew.bel.size); have HO33 : Hid (OwnI w15 w.heap.size (.slice A3 L3 c3) (targs x name)) := Lib.hid (by first | exact HO3.out.below hb15 | exact HO3.out.drew.below hb15); clear hown4; have a15_0 := HJ15.out.c0; have a15_1 := HJ15.out.c1; clear hb15) | (go_at_call 28; refine (targets_any _ _ _ x name (by first | exact HJ13.out.isr | exact HJ13.out.drew.isr) HL.out).mono ?_; rintro e w14 ⟨A3, L3, c3, rfl, hown3, hb14⟩; have HJ14 : Hid (InBox w w14 (.slice (some ⟨b, off, none⟩) L1 c1) (.slice A2 L2 c2) w.heap.size x) := Lib.hid (by first | exact HJ13.out.step hb14 | exact HJ13.out.drew.step hb14); have HO3 : Hid (OwnI w14 w.heap.size (.slice A3 L3 c3) (targs x name)) := Lib.hid (by first | exact hown3.base HJ13.out.bel.size | exact hown3.base HJ13.out.drew.bel.size); clear hown3; have a14_0 := HJ14.out.c0; have a14_1 := HJ14.out.c1; clear hb14) | (go_at_call 26; refine (refPrefer10_is _ _ _ x virt name (by first | exact HJ12.out.isr | exact HJ12.out.drew.isr) n HN.out).mono ?_; rintro e w13 ⟨rfl, hb13⟩; have HJ13 : Hid (InBox w w13 (.slice (some ⟨b, off, none⟩) L1 c1) (.slice A2 L2 c2) w.heap.size x) := Lib.hid (by first | exact HJ12.out.step hb13 | exact HJ12.out.drew.step hb13); have a13_0 := HJ13.out.c0; have a13_1 := HJ13.out.c1; clear hb13) | (go_at_call 25; refine (prefer10_is _ _ _ x virt name (by first | exact HJ11.out.isr | exact HJ11.out.drew.isr) n HN.out).mono ?_; rintro e w12 ⟨rfl, hb12⟩; have HJ12 : Hid (InBox w w12 (.slice (some ⟨b, off, none⟩) L1 c1) (.slice A2 L2 c2) w.heap.size x) := Lib.hid (by first | exact HJ11.out.step hb12 | exact HJ11.out.drew.step hb12); have a12_0 := HJ12.out.c0; have a12_1 := HJ12.out.c1; clear hb12) | (go_at_call 22; refine (fixed10_any _).mono ?_; rintro e w11 ⟨rfl, hb11⟩; have HJ11 : Hid (InBox w w11 (.slice (some ⟨b, off, none⟩) L1 c1) (.slice A2 L2 c2) w.heap.size x) := Lib.hid (by first | exact HJ10.out.step hb11 | exact HJ10.out.drew.step hb11); have a11_0 := HJ11.out.c0; have a11_1 := HJ11.out.c1; clear hb11)))
        go_wp2
        go_ret
        exact ⟨rfl, by first | exact HJ16.out.bel | exact HJ16.out.drew.bel⟩

      · skip
        have i0 : (0 : Int) ≤ i := by omega
        have i1 : ¬ i < (L1 : Int) := by omega
        have i2 : decide (i < (L1 : Int)) = false := by simpa using i1
        have i3 : decide ((0 : Int) ≤ i) = true := by simpa using i0
        clear hi hi2
        have x0 := cell_regrown HI3.out.c0
        have x1 := cell_regrown HI3.out.c1
        go_wp2_with fail
        refine wp_region_quiet_below (by kernel_rfl) (by kernel_rfl) ?_
        repeat (go_big_quiet_step ((fail)))
        refine wpQuiet_nil ?_
        intro _ hw'
        obtain ⟨⟨dq, osq⟩, hw''⟩ := hw'
        subst hw''
        have HII := HI3.out.step (below_regrown W3 dq osq)
        generalize grow (redrawn W3 dq) osq = WW at HII ⊢
        clear x0 x1

        have HJ10 : Hid (InBox w WW (.slice A1 L1 c1) (.slice A2 L2 c2) w.heap.size x) := Lib.hid HII
        have x0 := HJ10.out.c0
        have x1 := HJ10.out.c1
        go_wp2_with fail
        go_region_held3 (fun w' => w'.cell? ⟨w.heap.size, 0, none⟩ = some (.slice A1 L1 c1) ∧ w'.cell? ⟨w.heap.size, 1, none⟩ = some (.slice A2 L2 c2)) (go_keep) ((first | (go_at_call 27; refine (same10_is _ _ _ (targs x name) (by first | exact HO33.out.row (K := intK) rfl (targs_wf HL.out) | exact HO33.out.drew.row (K := intK) rfl (targs_wf HL.out)) (by first | exact HO4.out.row (K := intK) rfl (targs_wf HL.out) | exact HO4.out.drew.row (K := intK) rfl (targs_wf HL.out))).mono ?_; rintro e w16 ⟨rfl, hb16⟩; have HJ16 : Hid (InBox w w16 (.slice A1 L1 c1) (.slice A2 L2 c2) w.heap.size x) := Lib.hid (by first | exact HJ15.out.step hb16 | exact HJ15.out.drew.step hb16); have a16_0 := HJ16.out.c0; have a16_1 := HJ16.out.c1; clear hb16) | (go_at_call 29; refine (refTargets_any _ _ _ x name (by first | exact HJ14.out.isr | exact HJ14.out.drew.isr) HL.out).mono ?_; rintro e w15 ⟨A4, L4, c4, rfl, hown4, hb15⟩; have HJ15 : Hid (InBox w w15 (.slice A1 L1 c1) (.slice A2 L2 c2) w.heap.size x) := Lib.hid (by first | exact HJ14.out.step hb15 | exact HJ14.out.drew.step hb15); have HO4 : Hid (OwnI w15 w.heap.size (.slice A4 L4 c4) (targs x name)) := Lib.hid (by first | exact hown4.base HJ14.out.bel.size | exact hown4.base HJ14.out.drew.bel.size); have HO33 : Hid (OwnI w15 w.heap.size (.slice A3 L3 c3) (targs x name)) := Lib.hid (by first | exact HO3.out.below hb15 | exact HO3.out.drew.below hb15); clear hown4; have a15_0 := HJ15.out.c0; have a15_1 := HJ15.out.c1; clear hb15) | (go_at_call 28; refine (targets_any _ _ _ x name (by first | exact HJ13.out.isr | exact HJ13.out.drew.isr) HL.out).mono ?_; rintro e w14 ⟨A3, L3, c3, rfl, hown3, hb14⟩; have HJ14 : Hid (InBox w w14 (.slice A1 L1 c1) (.slice A2 L2 c2) w.heap.size x) := Lib.hid (by first | exact HJ13.out.step hb14 | exact HJ13.out.drew.step hb14); have HO3 : Hid (OwnI w14 w.heap.size (.slice A3 L3 c3) (targs x name)) := Lib.hid (by first | exact hown3.base HJ13.out.bel.size | exact hown3.base HJ13.out.drew.bel.size); clear hown3; have a14_0 := HJ14.out.c0; have a14_1 := HJ14.out.c1; clear hb14) | (go_at_call 26; refine (refPrefer10_is _ _ _ x virt name (by first | exact HJ12.out.isr | exact HJ12.out.drew.isr) n HN.out).mono ?_; rintro e w13 ⟨rfl, hb13⟩; have HJ13 : Hid (InBox w w13 (.slice A1 L1 c1) (.slice A2 L2 c2) w.heap.size x) := Lib.hid (by first | exact HJ12.out.step hb13 | exact HJ12.out.drew.step hb13); have a13_0 := HJ13.out.c0; have a13_1 := HJ13.out.c1; clear hb13) | (go_at_call 25; refine (prefer10_is _ _ _ x virt name (by first | exact HJ11.out.isr | exact HJ11.out.drew.isr) n HN.out).mono ?_; rintro e w12 ⟨rfl, hb12⟩; have HJ12 : Hid (InBox w w12 (.slice A1 L1 c1) (.slice A2 L2 c2) w.heap.size x) := Lib.hid (by first | exact HJ11.out.step hb12 | exact HJ11.out.drew.step hb12); have a12_0 := HJ12.out.c0; have a12_1 := HJ12.out.c1; clear hb12) | (go_at_call 22; refine (fixed10_any _).mono ?_; rintro e w11 ⟨rfl, hb11⟩; have HJ11 : Hid (InBox w w11 (.slice A1 L1 c1) (.slice A2 L2 c2) w.heap.size x) := Lib.hid (by first | exact HJ10.out.step hb11 | exact HJ10.out.drew.step hb11); have a11_0 := HJ11.out.c0; have a11_1 := HJ11.out.c1; clear hb11)))
        go_wp2
        go_ret
        exact ⟨rfl, by first | exact HJ16.out.bel | exact HJ16.out.drew.bel⟩

    · skip
      have i0 : ¬ (0 : Int) ≤ i := hi
      have i1 : decide ((0 : Int) ≤ i) = false := by simpa using hi
      clear hi
      have x0 := cell_regrown HI3.out.c0
      have x1 := cell_regrown HI3.out.c1
      go_wp2_with fail
      refine wp_region_quiet_below (by kernel_rfl) (by kernel_rfl) ?_
      repeat (go_big_quiet_step ((fail)))
      refine wpQuiet_nil ?_
      intro _ hw'
      obtain ⟨⟨dq, osq⟩, hw''⟩ := hw'
      subst hw''
      have HII := HI3.out.step (below_regrown W3 dq osq)
      generalize grow (redrawn W3 dq) osq = WW at HII ⊢
      clear x0 x1

      have HJ10 : Hid (InBox w WW (.slice A1 L1 c1) (.slice A2 L2 c2) w.heap.size x) := Lib.hid HII
      have x0 := HJ10.out.c0
      have x1 := HJ10.out.c1
      go_wp2_with fail
      go_region_held3 (fun w' => w'.cell? ⟨w.heap.size, 0, none⟩ = some (.slice A1 L1 c1) ∧ w'.cell? ⟨w.heap.size, 1, none⟩ = some (.slice A2 L2 c2)) (go_keep) ((first | (go_at_call 27; refine (same10_is _ _ _ (targs x name) (by first | exact HO33.out.row (K := intK) rfl (targs_wf HL.out) | exact HO33.out.drew.row (K := intK) rfl (targs_wf HL.out)) (by first | exact HO4.out.row (K := intK) rfl (targs_wf HL.out) | exact HO4.out.drew.row (K := intK) rfl (targs_wf HL.out))).mono ?_; rintro e w16 ⟨rfl, hb16⟩; have HJ16 : Hid (InBox w w16 (.slice A1 L1 c1) (.slice A2 L2 c2) w.heap.size x) := Lib.hid (by first | exact HJ15.out.step hb16 | exact HJ15.out.drew.step hb16); have a16_0 := HJ16.out.c0; have a16_1 := HJ16.out.c1; clear hb16) | (go_at_call 29; refine (refTargets_any _ _ _ x name (by first | exact HJ14.out.isr | exact HJ14.out.drew.isr) HL.out).mono ?_; rintro e w15 ⟨A4, L4, c4, rfl, hown4, hb15⟩; have HJ15 : Hid (InBox w w15 (.slice A1 L1 c1) (.slice A2 L2 c2) w.heap.size x) := Lib.hid (by first | exact HJ14.out.step hb15 | exact HJ14.out.drew.step hb15); have HO4 : Hid (OwnI w15 w.heap.size (.slice A4 L4 c4) (targs x name)) := Lib.hid (by first | exact hown4.base HJ14.out.bel.size | exact hown4.base HJ14.out.drew.bel.size); have HO33 : Hid (OwnI w15 w.heap.size (.slice A3 L3 c3) (targs x name)) := Lib.hid (by first | exact HO3.out.below hb15 | exact HO3.out.drew.below hb15); clear hown4; have a15_0 := HJ15.out.c0; have a15_1 := HJ15.out.c1; clear hb15) | (go_at_call 28; refine (targets_any _ _ _ x name (by first | exact HJ13.out.isr | exact HJ13.out.drew.isr) HL.out).mono ?_; rintro e w14 ⟨A3, L3, c3, rfl, hown3, hb14⟩; have HJ14 : Hid (InBox w w14 (.slice A1 L1 c1) (.slice A2 L2 c2) w.heap.size x) := Lib.hid (by first | exact HJ13.out.step hb14 | exact HJ13.out.drew.step hb14); have HO3 : Hid (OwnI w14 w.heap.size (.slice A3 L3 c3) (targs x name)) := Lib.hid (by first | exact hown3.base HJ13.out.bel.size | exact hown3.base HJ13.out.drew.bel.size); clear hown3; have a14_0 := HJ14.out.c0; have a14_1 := HJ14.out.c1; clear hb14) | (go_at_call 26; refine (refPrefer10_is _ _ _ x virt name (by first | exact HJ12.out.isr | exact HJ12.out.drew.isr) n HN.out).mono ?_; rintro e w13 ⟨rfl, hb13⟩; have HJ13 : Hid (InBox w w13 (.slice A1 L1 c1) (.slice A2 L2 c2) w.heap.size x) := Lib.hid (by first | exact HJ12.out.step hb13 | exact HJ12.out.drew.step hb13); have a13_0 := HJ13.out.c0; have a13_1 := HJ13.out.c1; clear hb13) | (go_at_call 25; refine (prefer10_is _ _ _ x virt name (by first | exact HJ11.out.isr | exact HJ11.out.drew.isr) n HN.out).mono ?_; rintro e w12 ⟨rfl, hb12⟩; have HJ12 : Hid (InBox w w12 (.slice A1 L1 c1) (.slice A2 L2 c2) w.heap.size x) := Lib.hid (by first | exact HJ11.out.step hb12 | exact HJ11.out.drew.step hb12); have a12_0 := HJ12.out.c0; have a12_1 := HJ12.out.c1; clear hb12) | (go_at_call 22; refine (fixed10_any _).mono ?_; rintro e w11 ⟨rfl, hb11⟩; have HJ11 : Hid (InBox w w11 (.slice A1 L1 c1) (.slice A2 L2 c2) w.heap.size x) := Lib.hid (by first | exact HJ10.out.step hb11 | exact HJ10.out.drew.step hb11); have a11_0 := HJ11.out.c0; have a11_1 := HJ11.out.c1; clear hb11)))
      go_wp2
      go_ret
      exact ⟨rfl, by first | exact HJ16.out.bel | exact HJ16.out.drew.bel⟩

theorem needsRanks_w (cs : List Value) (x : Rec) (i : Int) (_wi : (Lit.int .i64 i).wf = true) (ver : ByteArray) (s1 : ver.size ≤ maxLen) (virt : ByteArray) (s2 : virt.size ≤ maxLen) (name : ByteArray) (s3 : name.size ≤ maxLen) (w : World) (h : recK.is w cs x) :
    Calls Try.prog 6 #[.agg cs.toArray, .int .i64 i, .string ver, .string virt, .string name] w fun e w' => e = .returned (.bool true) ∧ Below w.heap.size w w' := by
  obtain ⟨v1, v2, rfl, h⟩ := h
  exact needsRanks_any w v1 v2 x i ver virt name s1 s2 s3 h
end Go.Proofs.Ytggejmojbebhfaa.Rc
