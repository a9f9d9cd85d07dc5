/- slices.Concat of rows of settings. -/
import Derived.Test.YtbdceeecngibmaaVaUsual
import Derived.Deep.Upon
import Derived.Lib.AppendZeros
import Derived.Lib.AppendZerosOnto
namespace Go.Proofs.Ytbdceeecngibmaa.Va
open Go.RowKit

def nthG (l : List (List Set1)) (i : Nat) : List Set1 := l[i]?.getD []
theorem nthG_lt {l : List (List Set1)} {i : Nat} (h : i < l.length) : nthG l i = l[i] := by unfold nthG; rw [List.getElem?_eq_getElem h]; rfl

/-- Rows of settings that lie in memory. -/
def Grid (w : World) (v : Value) (ls : List (List Set1)) : Prop :=
  ∃ A c, v = .slice A ls.length c ∧ ls.length ≤ c ∧ c ≤ maxLen ∧ (0 < ls.length → ∃ b off, A = some ⟨b, off, none⟩ ∧ b < w.heap.size ∧ ∀ j, j < ls.length → ∃ u, w.cell? ⟨b, off + j, none⟩ = some u ∧ Sets w u (nthG ls j))
theorem Grid.below {w w' : World} {B : Nat} {v : Value} {l : List (List Set1)} (h : Grid w v l) (hb : Below B w w') (hB : w.heap.size ≤ B) : Grid w' v l := by
  obtain ⟨A, c, e, h1, h2, h3⟩ := h
  refine ⟨A, c, e, h1, h2, fun hp => ?_⟩
  obtain ⟨b, off, ha, hlt, hc⟩ := h3 hp
  refine ⟨b, off, ha, Nat.lt_of_lt_of_le hlt hb.size, fun j hj => ?_⟩
  obtain ⟨u, g1, g2⟩ := hc j hj
  exact ⟨u, (hb.cell (p := ⟨b, off + j, none⟩) (by simp; omega)).trans g1, g2.below hb hB⟩
theorem Grid.open' {w : World} {v : Value} {ls : List (List Set1)} (h : Grid w v ls) : ∃ A L c, v = .slice A L c ∧ L = ls.length ∧ L ≤ c ∧ c ≤ maxLen ∧
   (0 < L → ∃ b off, A = some ⟨b, off, none⟩ ∧ b < w.heap.size ∧ ∀ j, j < L → ∃ u, w.cell? ⟨b, off + j, none⟩ = some u ∧ Sets w u (nthG ls j)) := by
  obtain ⟨A, c, e, h1, h2, h3⟩ := h
  exact ⟨A, _, c, e, rfl, h1, h2, h3⟩

theorem cells_at {w : World} {A : Option Addr} {L c : Nat} {l : List Set1} (h : Sets w (.slice A L c) l) (hl : 0 < L) : ∃ b off, A = some ⟨b, off, none⟩ ∧ ∀ j u, (cellsT l)[j]? = some u → w.cell? ⟨b, off + j, none⟩ = some u := by
  obtain ⟨A', c', e, h1, h2, h3⟩ := h
  injection e with e1 e2 e3
  subst e1; subst e3; subst e2
  obtain ⟨b, off, ha, hlt, hc⟩ := h3 hl
  refine ⟨b, off, ha, fun j u hu => ?_⟩
  have hj : j < l.length * 2 := by have := (List.getElem?_eq_some_iff.1 hu).1; rwa [cellsT_len] at this
  obtain ⟨q1, q2⟩ := cellsT_get l (j / 2) (by omega)
  obtain ⟨r1, r2, _⟩ := hc (j / 2) (by omega)
  rcases Nat.mod_two_eq_zero_or_one j with hm | hm
  · have e : j / 2 * 2 = j := by omega
    rw [e] at q1 r1
    rw [hu] at q1
    injection q1 with q1
    rw [q1]; exact r1
  · have e : j / 2 * 2 + 1 = j := by omega
    have e' : off + j / 2 * 2 + 1 = off + j := by omega
    rw [e] at q2
    rw [e'] at r2
    rw [hu] at q2
    injection q2 with q2
    rw [q2]; exact r2

theorem run_appendT_row (w : World) (base : Nat) (v x : Value) (xs zs : List Set1) (hown : OwnT w base v xs) (hr : Sets w x zs) (hl : xs.length + zs.length ≤ 200000) (hbase : base ≤ w.heap.size) :
    ∃ v' w', (Builtin.append_ #[25, 25] 25 #[v, x]).run Try.prog w = .ok v' w' ∧ OwnT w' base v' (xs ++ zs) ∧ w.grownBy w' v.ownBlock := by
  obtain ⟨i0, hi0, hz0, hz1, hz2⟩ := info_parts set_info
  have hr' := hr
  obtain ⟨A, c, rfl, h1, h2, h3⟩ := hr
  by_cases hz : zs.length = 0
  · have hz' : zs = [] := List.eq_nil_of_length_eq_zero hz
    subst hz'
    have hv : ∃ A n cp, v = .slice A n cp ∧ n ≤ cp := by
      rcases hown.2 with ⟨e, _⟩ | ⟨g, cap, cur, e, _, _, hle, _⟩
      · exact ⟨_, _, _, e, Nat.le_refl _⟩
      · exact ⟨_, _, _, e, hle⟩
    obtain ⟨A', n, cp, rfl, hle⟩ := hv
    have hs : Src Try.prog i0.size 25 (.slice A ([] : List Set1).length c) 0 [] w := by
      cases A with
      | none => exact Src.ofNil w Try.underlying25 c
      | some a => exact Src.ofSlice w Try.underlying25 a 0 c [] (by simp) (fun j u hu => by simp at hu) (by simp)
    exact ⟨_, w, run_append_nothing w 25 25 25 37 i0 Try.underlying25 hi0 A' n cp hle _ hs, by rw [List.append_nil]; exact hown, grown_refl w _⟩
  · obtain ⟨b, off, rfl, hc⟩ := cells_at hr' (by omega)
    obtain ⟨v', w', hrun, r1, r2, _, r4⟩ := run_append_own_at (P := Try.prog) w base 25 25 37 i0 _ 2 32 Try.underlying25 hi0 hz0 hz1 hz2 rfl (by omega) v xs.length (cellsT xs) hown ⟨b, off, none⟩ zs.length c (cellsT zs) (cellsT_len zs)
      (fun j u hu => by rw [Addr.add_mid]; exact hc j u hu) (cellsT_one zs) (by unfold maxLen; omega) (by omega) hbase
    refine ⟨v', w', hrun, ?_, r2⟩
    unfold OwnT
    rw [List.length_append, cellsT_app]
    exact r1

theorem wpList_appendT_row {ops : Array Oper} {rest : List Oper} {o : Oper} {a : Act} {Q : Exit → Act → World → Prop} (hgd : o.guard = none) (s y : Operand)
    (ho : o.op = .call { callee := .builtin .append, args := #[s, y], argTypes := #[25, 25] }) (hty : o.type = 25)
    {w : World} {base : Nat} {v x : Value} {xs zs : List Set1} (hs : a.eval s = v) (hx : a.eval y = x) (hown : OwnT w base v xs) (hr : Sets w x zs) (hl : xs.length + zs.length ≤ 200000) (hbase : base ≤ w.heap.size)
    (hK : ∀ A' L' c' w', OwnT w' base (.slice A' L' c') (xs ++ zs) → w.grownBy w' v.ownBlock → wpList Try.prog ops Q rest (a.put o.dst (.slice A' L' c')) w') : wpList Try.prog ops Q (o :: rest) a w := by
  refine wpList_plain hgd fun K hK' => ?_
  obtain ⟨v', w', hrun, r1, r2⟩ := run_appendT_row w base v x xs zs hown hr hl hbase
  obtain ⟨A', L', c', rfl⟩ : ∃ A n c, v' = .slice A n c := by
    obtain ⟨A, c, e⟩ := r1.slice
    exact ⟨_, _, _, e⟩
  unfold Oper.wp
  simp [execOp, ho, hty, resolve, invoke, builtin, hs, hx, hrun, Result.andThen]
  exact hK' _ _ (hK A' L' c' w' r1 r2)

set_option maxRecDepth 100000 in
set_option maxHeartbeats 1000000 in
theorem growT_nil (w : World) (n : Nat) (hn : n ≤ 100000) :
    Calls Try.prog 51 #[.slice none 0 0, .int .i64 n] w fun e w' => ∃ A L c, e = .returned (.slice A L c) ∧ OwnT w' w.heap.size (.slice A L c) [] ∧ Below w.heap.size w w' := by
  by_cases h0 : n = 0
  · subst h0
    go_enter Try.func51, Try.ntmps51
    go_wp2
    go_ret
    exact ⟨_, _, _, rfl, own_nilT _ _, Below.refl _ _⟩
  · obtain ⟨i0, hi0, hz0, hz1, hz2⟩ := info_parts set_info
    have hrz : ∀ ty, (Builtin.append_ #[25, 3] ty #[.slice none 0 0, .int .i64 (n : Int)]).run Try.prog w =
      .ok (.slice (some ⟨w.heap.size, 0, none⟩) n (grownCap w n 0 37)) (w.drew.alloc (.cells (Builtin.zeroCells (Value.agg #[.string ⟨#[]⟩, .string ⟨#[]⟩]).cells n ++ Builtin.zeroCells (Value.agg #[.string ⟨#[]⟩, .string ⟨#[]⟩]).cells (grownCap w n 0 37 - n)) 37)) := fun ty =>
      Lib.run_append_nil_zeros w 25 3 ty 37 i0 _ .i64 .i64 Try.underlying25 Try.underlying3 hi0 hz0 n (by omega) (by rw [hz1]; omega) (by omega) (by rw [hz2]; omega)
    have hGn : n ≤ grownCap w n 0 37 := grownCap_ge w _ _ _
    have hG63 := grownCap_le_maxLen w n 0 37 (by unfold maxLen; omega)
    obtain ⟨G, hG⟩ : ∃ G, G = grownCap w n 0 37 := ⟨_, rfl⟩
    obtain ⟨cur, hcur⟩ : ∃ cur, cur = Builtin.zeroCells (Value.agg #[.string ⟨#[]⟩, .string ⟨#[]⟩]).cells n ++ Builtin.zeroCells (Value.agg #[.string ⟨#[]⟩, .string ⟨#[]⟩]).cells (grownCap w n 0 37 - n) := ⟨_, rfl⟩
    have hsz : cur.size = G * 2 := by rw [hcur, hG]; simp [size_zeroCells, Value.cells]; omega
    rw [← hcur, ← hG] at hrz
    rw [← hG] at hGn hG63
    have HOW := Lib.hid (World.ownsRow_made (base := w.heap.size) (e := 37) w.drew cur G (Nat.le_refl _) hG63 hsz)
    have hgz : (0 : Int) < (n : Int) := by omega
    unfold maxLen at hG63
    clear hG hcur hsz hi0 hz0 hz1 hz2
    go_enter Try.func51, Try.ntmps51
    go_wp2_with (at_builtin; refine Lib.wpList_append_run _ rfl _ _ _ _ rfl _ _ rfl rfl _ _ (hrz _) ?_)
    all_goals (go_ret; exact ⟨_, _, _, rfl, HOW.out, ((Below.refl w.heap.size w).drew).alloc (Nat.le_refl _) _⟩)

theorem flat_take {ls : List (List Set1)} {k : Nat} (hk : k < ls.length) : (ls.take (k + 1)).flatten = (ls.take k).flatten ++ nthG ls k := by
  rw [List.take_succ_eq_append_getElem hk, nthG_lt hk, List.flatten_append]; simp only [List.flatten_cons, List.flatten_nil, List.append_nil]
theorem flat_le {ls : List (List Set1)} {k : Nat} : (ls.take k).flatten.length ≤ ls.flatten.length := by
  conv => rhs; rw [← List.take_append_drop k ls]
  simp only [List.flatten_append, List.length_append]; omega

set_option maxRecDepth 100000 in
set_option maxHeartbeats 1000000 in
theorem concatT_any (w : World) (v : Value) (ls : List (List Set1)) (hg : Grid w v ls) (hl : ls.flatten.length ≤ 100000) :
    Calls Try.prog 41 #[v] w fun e w' => ∃ A L c, e = .returned (.slice A L c) ∧ OwnT w' w.heap.size (.slice A L c) ls.flatten ∧ Below w.heap.size w w' := by
  have HG := Lib.hid hg
  have HF := Lib.hid hl
  obtain ⟨A, L, c, rfl, hL, h1, h2, h3⟩ := hg.open'
  unfold maxLen at h2
  have HL := Lib.hid hL
  have H3 := Lib.hid h3
  clear hg hL hl h3
  go_enter Try.func41, Try.ntmps41
  go_wp2
  go_loop [11, 3] (fun i s => ∃ k m : Nat, i = .int .i64 (k : Int) ∧ s = .int .i64 (m : Int) ∧ k ≤ L ∧ m = (ls.take k).flatten.length) (fun i _ => L - (intOf i).toNat)
  case atStart => exact ⟨0, 0, rfl, rfl, by omega, by simp⟩
  case round =>
    obtain ⟨k, m, rfl, rfl, hk, hm⟩ := hrel
    have HM := Lib.hid hm
    have hmb : m ≤ 100000 := by have h1 := flat_le (ls := ls) (k := k); have h2 := HF.out; omega
    clear hm
    by_cases hkl : k < L
    · obtain ⟨b, off, rfl, hb, hc⟩ := H3.out (by omega)
      obtain ⟨u, g1, g2⟩ := hc k hkl
      obtain ⟨A1, L1, c1, rfl, hl1, g3⟩ := g2.open'
      clear g3 hc g2
      have hnx : m + L1 = (ls.take (k + 1)).flatten.length := by rw [flat_take (by rw [← HL.out]; exact hkl), List.length_append, ← HM.out, hl1]
      have hnb : m + L1 ≤ 100000 := by have h1 := flat_le (ls := ls) (k := k + 1); have h2 := HF.out; omega
      have HNX := Lib.hid hnx
      have g1' : ¬ ((m : Int) + (L1 : Int) < 0) := by omega
      clear hl1 hnx
      go_wp2
      go_round
      case rel => exact ⟨k + 1, m + L1, by first | rfl | go_num, by first | rfl | go_num, by omega, HNX.out⟩
      case measure => simp [intOf]; omega
    · have hkL : k = L := by omega
      subst hkL
      go_wp2_with fail
      refine (growT_nil w m hmb).mono ?_
      rintro e w1 ⟨A1, L1, c1, rfl, hown, hb⟩
      have HO := Lib.hid hown
      have HB := Lib.hid hb
      clear hown hb
      go_wp2
      go_loopw [27, 6] (fun i t wr => ∃ (j : Nat) (T : Option Addr) (n tc : Nat), i = .int .i64 (j : Int) ∧ t = .slice T n tc ∧ j ≤ k ∧ OwnT wr w.heap.size (.slice T n tc) (ls.take j).flatten ∧ Below w.heap.size w wr) (fun i _ _ => k - (intOf i).toNat)
      case atStart => exact ⟨0, _, _, _, rfl, rfl, by omega, by simpa using HO.out, HB.out⟩
      case round =>
        clear HO HB
        obtain ⟨j, T, n, tc, rfl, rfl, hj, hown, hb⟩ := hrel
        have HO := Lib.hid hown
        have HB := Lib.hid hb
        clear hown hb
        by_cases hjl : j < k
        · obtain ⟨b, off, rfl, hb, hc⟩ := H3.out (by omega)
          obtain ⟨u, g1, g2⟩ := hc j hjl
          have HR := Lib.hid (g2.below HB.out (Nat.le_refl _))
          obtain ⟨A1, L1, c1, rfl, hl1, g3⟩ := g2.open'
          have q1 := (HB.out.cell (p := ⟨b, off + j, none⟩) hb).trans g1
          clear g3 hc g2 g1 hl1
          have hjl' : j < ls.length := by rw [← HL.out]; exact hjl
          have hln : (ls.take j).flatten.length + (nthG ls j).length ≤ 200000 := by
            have h1 := flat_le (ls := ls) (k := j + 1)
            rw [flat_take hjl', List.length_append] at h1
            have := HF.out; omega
          have HLN := Lib.hid hln
          have HFT := Lib.hid (flat_take hjl')
          clear hln hjl'
          go_wp2_with (at_builtin; refine wpList_appendT_row rfl (.tmp 31) (.tmp 32) rfl rfl (v := .slice T n tc) (x := .slice A1 L1 c1) (xs := (ls.take j).flatten) (zs := nthG ls j) rfl rfl HO.out HR.out HLN.out HB.out.size ?_; intro T4 n4 c4 w4 hown4 hgrow4; have HO4 := Lib.hid hown4; have HB4 := Lib.hid (belowT HB.out (Nat.le_refl _) HO.out (Nat.le_refl _) hgrow4); clear hown4 hgrow4)
          go_roundw
          case rel => exact ⟨j + 1, T4, n4, c4, by first | rfl | go_num, rfl, by omega, by rw [HFT.out]; exact HO4.out, HB4.out⟩
          case measure => simp [intOf]; omega
        · have hjk : j = k := by omega
          subst hjk
          go_wp2
          go_ret
          have hO := HO.out
          rw [HL.out, List.take_length] at hO
          exact ⟨_, _, _, rfl, hO, HB.out⟩

end Go.Proofs.Ytbdceeecngibmaa.Va
