/- Plain mathematics: all settings of variants; rows of rows of the call's own. -/
import Derived.Test.YtaahdhpljlkfjaaGreatZg25
namespace Go.Proofs.YtaahdhpljlkfjaaGreat.Va
open Go.RowKit

def stepR (rows : List (List Set1)) (v : Var) : List (List Set1) := v.2.flatMap fun x => rows.map (· ++ [(v.1, x)])
def foldR (l : List Var) : List (List Set1) := l.foldl stepR [[]]
def allB (l : List Var) : List (List Set1) := if mayB l then foldR l else []

theorem foldR_snoc {l : List Var} {k : Nat} (hk : k < l.length) : foldR (l.take (k + 1)) = stepR (foldR (l.take k)) (nthV l k) := by
  unfold foldR
  rw [List.take_succ_eq_append_getElem hk, List.foldl_append, nthV_lt hk]; rfl
theorem flatMap_snoc {l : List ByteArray} {k : Nat} (hk : k < l.length) (f : ByteArray → List (List Set1)) : (l.take (k + 1)).flatMap f = (l.take k).flatMap f ++ f (nthS l k) := by
  rw [List.take_succ_eq_append_getElem hk, List.flatMap_append, nthS_lt hk]; simp only [List.flatMap_cons, List.flatMap_nil, List.append_nil]
theorem map_snoc {l : List (List Set1)} {k : Nat} (hk : k < l.length) (f : List Set1 → List Set1) : (l.take (k + 1)).map f = (l.take k).map f ++ [f (nthG l k)] := by
  rw [List.take_succ_eq_append_getElem hk, List.map_append, nthG_lt hk]; rfl

theorem flatMap_le (f : ByteArray → List (List Set1)) (n : Nat) (hf : ∀ x, (f x).length = n) : ∀ (l : List ByteArray) , (l.flatMap f).length = l.length * n := by
  intro l
  induction l with
  | nil => simp
  | cons a r ih => rw [List.flatMap_cons, List.length_append, ih, hf, List.length_cons, Nat.succ_mul]; omega
theorem nthG_mem {l : List (List Set1)} {i : Nat} (h : i < l.length) : nthG l i ∈ l := by rw [nthG_lt h]; exact List.getElem_mem h

theorem mayB_len {l : List Var} (h : mayB l = true) : l.length ≤ 4 := by
  unfold mayB at h; simp at h; exact h.1
theorem mayB_vals {l : List Var} (h : mayB l = true) {k : Nat} (hk : k < l.length) : 0 < (nthV l k).2.length ∧ (nthV l k).2.length ≤ 4 := by
  unfold mayB at h
  rw [Bool.and_eq_true, List.all_eq_true] at h
  have := h.2 k (by simpa using hk)
  rw [Bool.and_eq_true] at this
  have h1 := this.1
  unfold mayOneB at h1
  simp at h1
  obtain ⟨⟨⟨_, h2⟩, h3⟩, _⟩ := h1
  refine ⟨?_, h3⟩
  cases hh : (nthV l k).2 with
  | nil => exact absurd hh h2
  | cons _ _ => simp

/-- How long each row is, and how many there are. -/
theorem foldR_rows : ∀ {l : List Var}, mayB l = true → ∀ k, k ≤ l.length → (∀ z ∈ foldR (l.take k), z.length = k) ∧ (foldR (l.take k)).length ≤ 4 ^ k := by
  intro l h k
  induction k with
  | zero => intro _; refine ⟨fun z hz => ?_, ?_⟩ <;> simp [foldR] at *; exact hz
  | succ k ih =>
    intro hk
    obtain ⟨i1, i2⟩ := ih (by omega)
    rw [foldR_snoc (by omega)]
    have hv := (mayB_vals h (k := k) (by omega)).2
    refine ⟨fun z hz => ?_, ?_⟩
    · unfold stepR at hz
      simp at hz
      obtain ⟨x, _, y, hy, rfl⟩ := hz
      simp [i1 y hy]
    · unfold stepR
      have : ∀ (vs : List ByteArray), (vs.flatMap fun x => (foldR (l.take k)).map (· ++ [((nthV l k).1, x)])).length = vs.length * (foldR (l.take k)).length := by
        intro vs; induction vs with
        | nil => simp
        | cons a r ih => rw [List.flatMap_cons, List.length_append, ih, List.length_map, List.length_cons, Nat.succ_mul]; omega
      rw [this, Nat.pow_succ, Nat.mul_comm (4 ^ k)]
      exact Nat.mul_le_mul hv i2
theorem pow_le {k : Nat} (h : k ≤ 4) : 4 ^ k ≤ 256 := by
  have := Nat.pow_le_pow_right (n := 4) (by omega) h
  simpa using this

def Small (ls : List (List Set1)) : Prop := ∀ z ∈ ls, ∀ x ∈ z, x.1.size ≤ maxLen ∧ x.2.size ≤ maxLen
def SmallV (l : List Var) : Prop := ∀ v ∈ l, v.1.size ≤ maxLen ∧ ∀ x ∈ v.2, x.size ≤ maxLen
theorem mem_nthS {l : List ByteArray} {x : ByteArray} (h : x ∈ l) : ∃ j, j < l.length ∧ nthS l j = x := by
  obtain ⟨j, hj, rfl⟩ := List.mem_iff_getElem.1 h
  exact ⟨j, hj, nthS_lt hj⟩
theorem mem_nthV {l : List Var} {x : Var} (h : x ∈ l) : ∃ j, j < l.length ∧ nthV l j = x := by
  obtain ⟨j, hj, rfl⟩ := List.mem_iff_getElem.1 h
  exact ⟨j, hj, nthV_lt hj⟩
theorem Strs.small {w : World} {v : Value} {l : List ByteArray} (h : Strs w v l) : ∀ x ∈ l, x.size ≤ maxLen := by
  intro x hx
  obtain ⟨j, hj, rfl⟩ := mem_nthS hx
  obtain ⟨A, c, _, _, _, h3⟩ := h
  obtain ⟨_, _, _, _, hc⟩ := h3 (by omega)
  exact (hc j hj).2
theorem Vars.small {w : World} {v : Value} {l : List Var} (h : Vars w v l) : SmallV l := by
  intro x hx
  obtain ⟨j, hj, rfl⟩ := mem_nthV hx
  obtain ⟨A, c, _, _, _, h3⟩ := h
  obtain ⟨_, _, _, _, hc⟩ := h3 (by omega)
  obtain ⟨_, ⟨u, _, g⟩, g2⟩ := hc j hj
  exact ⟨g2, g.small⟩
theorem small_fold {l : List Var} (h : SmallV l) : ∀ k, k ≤ l.length → Small (foldR (l.take k)) := by
  intro k
  induction k with
  | zero => intro _ z hz x hx; simp [foldR] at hz; subst hz; simp at hx
  | succ k ih =>
    intro hk
    rw [foldR_snoc (by omega)]
    have i := ih (by omega)
    obtain ⟨h1, h2⟩ := h _ (nthV_mem (l := l) (i := k) (by omega))
    intro z hz x hx
    unfold stepR at hz
    simp at hz
    obtain ⟨y, hy, z', hz', rfl⟩ := hz
    rcases List.mem_append.1 hx with hx | hx
    · exact i z' hz' x hx
    · simp at hx; subst hx; exact ⟨h1, h2 y hy⟩

/-- A row of rows, all of the call's own. -/
def OwnR (w : World) (base : Nat) (v : Value) (us : List Value) (ls : List (List Set1)) : Prop :=
  w.ownsRow base 57 1 v ls.length us ∧ us.length = ls.length ∧ ∀ (j : Nat) (u : Value) (z : List Set1), us[j]? = some u → ls[j]? = some z → OwnT w base u z

theorem OwnR.below {w w' : World} {base : Nat} {v : Value} {us : List Value} {ls : List (List Set1)} (h : OwnR w base v us ls) (hb : Below w.heap.size w w') : OwnR w' base v us ls :=
  ⟨own_touch h.1 (Touch.of_below (S := fun _ => False) hb) (fun _ _ h => h), h.2.1, fun j u z hu hz => (h.2.2 j u z hu hz).below hb⟩
theorem OwnR.belowB {w w' : World} {base B : Nat} {v : Value} {us : List Value} {ls : List (List Set1)} (h : OwnR w base v us ls) (hb : Below B w w') (hB : w.heap.size ≤ B) : OwnR w' base v us ls := by
  refine h.below (hb.mono hB)
theorem OwnR.alloc {w : World} {base : Nat} {v : Value} {us : List Value} {ls : List (List Set1)} (h : OwnR w base v us ls) (o : Obj) : OwnR (w.alloc o) base v us ls := h.below ((Below.refl _ _).alloc (Nat.le_refl _) o)
theorem OwnR.slice {w : World} {base : Nat} {v : Value} {us : List Value} {ls : List (List Set1)} (h : OwnR w base v us ls) : ∃ A c, v = .slice A ls.length c := by
  rcases own_len h.1 with ⟨e, h0⟩ | ⟨g, cap, e⟩
  · exact ⟨none, 0, by rw [e, h0]⟩
  · exact ⟨_, _, e⟩
theorem OwnR.base {w : World} {base base' : Nat} {v : Value} {us : List Value} {ls : List (List Set1)} (h : OwnR w base v us ls) (hb : base' ≤ base) : OwnR w base' v us ls :=
  ⟨ownsRow_base h.1 hb, h.2.1, fun j u z hu hz => (h.2.2 j u z hu hz).base hb⟩
theorem OwnR.at {w : World} {base : Nat} {A : Option Addr} {L c : Nat} {us : List Value} {ls : List (List Set1)} (h : OwnR w base (.slice A L c) us ls) {k : Nat} (hk : k < L) :
    ∃ b u, A = some ⟨b, 0, none⟩ ∧ w.cell? ⟨b, k, none⟩ = some u ∧ OwnT w base u (nthG ls k) := by
  obtain ⟨A', c', e⟩ := h.slice
  injection e with e1 e2 e3
  subst e1; subst e3; subst e2
  rcases h.1.2 with ⟨e, h0⟩ | ⟨g, cap, cur, e, hg, hh, h1, h2, _, h4⟩
  · omega
  · injection e with e1 e2 e3
    subst e1
    obtain ⟨u0, hu⟩ : ∃ u0, us[k]? = some u0 := ⟨_, List.getElem?_eq_getElem (by rw [h.2.1]; exact hk)⟩
    refine ⟨g, u0, rfl, cells_get hh k ?_, h.2.2 k _ _ hu (by rw [nthG_lt hk]; exact List.getElem?_eq_getElem hk)⟩
    rw [← h4, List.getElem?_take] at hu
    split at hu
    · simpa using hu
    · cases hu
theorem OwnR.app {W w' : World} {base : Nat} {v v' u : Value} {us : List Value} {ls : List (List Set1)} {z : List Set1} (h : OwnR W base v us ls) (hu : OwnT W base u z) (h1 : w'.ownsRow base 57 1 v' (ls.length + 1) (us ++ [u])) (hg : W.grownBy w' v.ownBlock) :
    OwnR w' base v' (us ++ [u]) (ls ++ [z]) := by
  have ht := Touch.of_grown (S := fun i => v.ownBlock = some i) hg (fun i e => e)
  have hap : ∀ x (zz : List Set1), OwnT W base x zz → OwnT w' base x zz := fun x zz hx => hx.touch ht (fun g e e2 => by
    rcases h.1.2 with ⟨e3, _⟩ | ⟨g', cap, cur, e3, _, hh, _⟩
    · rw [e3] at e2; simp [Value.ownBlock] at e2
    · have e4 : v.ownBlock = some g' := by rw [e3]; rfl
      rw [e4] at e2
      injection e2 with e2
      subst e2
      exact own_apart hx hh (by decide) e)
  refine ⟨by simpa using h1, by simp [h.2.1], fun j x zz hx hz => ?_⟩
  by_cases hj : j < ls.length
  · rw [List.getElem?_append_left (by rw [h.2.1]; exact hj)] at hx
    rw [List.getElem?_append_left hj] at hz
    exact hap _ _ (h.2.2 j x zz hx hz)
  · rw [List.getElem?_append_right (by omega)] at hz
    rw [List.getElem?_append_right (by have := h.2.1; omega)] at hx
    have hj0 : j - ls.length = 0 := by
      have := (List.getElem?_eq_some_iff.1 hz).1
      simp at this; omega
    rw [hj0] at hz
    rw [h.2.1, hj0] at hx
    simp at hx hz
    subst hx; subst hz
    exact hap _ _ hu

end Go.Proofs.YtaahdhpljlkfjaaGreat.Va

/- The program's Legal and Unusual. -/
namespace Go.Proofs.YtaahdhpljlkfjaaGreat.Va
open Go.RowKit

def unusualB (us s : List Set1) : Nat := s.countP fun x => !hasT us x
theorem unusual_snoc {s : List Set1} {k : Nat} (hk : k < s.length) (us : List Set1) : unusualB us (s.take (k + 1)) = unusualB us (s.take k) + (if hasT us (nthT s k) then 0 else 1) := by
  unfold unusualB
  rw [List.take_succ_eq_append_getElem hk, List.countP_append, nthT_lt hk]
  congr 1
  cases h : hasT us s[k] <;> simp [h]
theorem unusual_le (us s : List Set1) (k : Nat) : unusualB us (s.take k) ≤ k := by
  unfold unusualB
  exact Nat.le_trans List.countP_le_length (by rw [List.length_take]; omega)

set_option maxRecDepth 100000 in
set_option maxHeartbeats 1600000 in
theorem unusual_any (w : World) (v u : Value) (l : List Var) (s : List Set1) (h : Vars w v l) (hs : Sets w u s) (hl : l.length ≤ 60000) :
    Calls Tryz.prog 24 #[v, u] w fun e w' => e = .returned (.int .i64 ((unusualB (usualB l) s : Nat) : Int)) ∧ Below w.heap.size w w' := by
  have hsm := h.small
  have husm : ∀ x ∈ usualB l, x.1.size ≤ maxLen ∧ x.2.size ≤ maxLen := by
    intro x hx
    unfold usualB at hx
    rw [List.mem_filterMap] at hx
    obtain ⟨y, hy, e⟩ := hx
    obtain ⟨m1, m2⟩ := hsm y hy
    split at e
    · cases e
    · rename_i z r hz
      injection e with e
      subst e
      exact ⟨m1, m2 z (by rw [hz]; simp)⟩
  have HUS := Lib.hid husm
  obtain ⟨As, Ls, cs, rfl, hLs, hs1, hs2, hs3⟩ := hs.open'
  unfold maxLen at hs2
  have HLs := Lib.hid hLs
  have HS3 := Lib.hid hs3
  have HC := Lib.hid (usual_any w v l h hl)
  clear h hs hLs hs3 hsm husm hl
  go_enter Tryz.func24, Tryz.ntmps24
  go_wp2_with fail
  refine HC.out.mono ?_
  rintro e w1 ⟨A, n, c, rfl, hown, hb1⟩
  have HU := Lib.hid (hown.sets HUS.out)
  have HB1 := Lib.hid hb1
  clear hown hb1
  go_wp2_with fail
  refine (among_any w1 _ (usualB l) HU.out).mono ?_
  rintro e w2 ⟨rfl, hz2, hp2, hb2⟩
  have HU2 := Lib.hid (HU.out.below hb2 (Nat.le_refl _))
  have HP2 := Lib.hid hp2
  have HB2 := Lib.hid (HB1.out.trans (hb2.mono HB1.out.size))
  have hz : w1.heap.size < w2.heap.size := by omega
  clear hz2 hp2 hb2
  go_wp2
  go_loopw [6, 14] (fun t i wr => ∃ k m : Nat, k ≤ Ls ∧ i = .int .i64 k ∧ t = .int .i64 m ∧ m ≤ k ∧ Hid (m = unusualB (usualB l) (s.take k)) ∧ Below w2.heap.size w2 wr) (fun _ i _ => Ls - (RowKit.intOf i).toNat)
  case atStart => exact ⟨0, 0, Nat.zero_le _, rfl, rfl, Nat.le_refl _, Lib.hid (by simp [unusualB]), Below.refl _ _⟩
  case round =>
    obtain ⟨k, m, hk, rfl, rfl, hm, hme, hbw⟩ := hrel
    have HBW := Lib.hid hbw
    have HBT := Lib.hid (HB2.out.trans (hbw.mono HB2.out.size))
    by_cases hlt : k < Ls
    · obtain ⟨b, off, rfl, hb, hc⟩ := HS3.out (by omega)
      have c0 := (HBT.out.cell (p := ⟨b, off + k * 2, none⟩) hb).trans (hc k hlt).1
      have c1 := (HBT.out.cell (p := ⟨b, off + k * 2 + 1, none⟩) hb).trans (hc k hlt).2.1
      have hkl : k < s.length := by rw [← HLs.out]; exact hlt
      have HSN := Lib.hid (unusual_snoc hkl (usualB l))
      have hbA : Below w2.heap.size w2 (wr.alloc (.cells #[.string (nthT s k).1, .string (nthT s k).2] 94)) := hbw.alloc hbw.size _
      have HP3 := Lib.hid ((hbA.cell (p := ⟨w1.heap.size, 0, none⟩) hz).trans HP2.out)
      have HU3 := Lib.hid (HU2.out.below hbA (Nat.le_refl _))
      have HBA := Lib.hid hbA
      clear hc hbw hkl hbA
      go_wp2_with fail
      refine (amongC_any _ _ (usualB l) _ _ w1.heap.size HU3.out HP3.out).mono ?_
      rintro e w3 ⟨rfl, hb3⟩
      have HB3 := Lib.hid (HBA.out.trans (hb3.mono HBA.out.size))
      clear hb3 c0 c1
      cases hh : hasT (usualB l) ((nthT s k).1, (nthT s k).2) with
      | false =>
        have hn : Hid (m + 1 = unusualB (usualB l) (s.take (k + 1))) := Lib.hid (by rw [HSN.out, ← hme.out, show nthT s k = ((nthT s k).1, (nthT s k).2) from rfl, hh]; rfl)
        clear hh
        go_wp2
        go_roundw
        case rel => exact ⟨k + 1, m + 1, by omega, by go_num, by go_num, by omega, hn, HB3.out⟩
        case measure => simp [RowKit.intOf]; omega
      | true =>
        have hn : Hid (m = unusualB (usualB l) (s.take (k + 1))) := Lib.hid (by rw [HSN.out, ← hme.out, show nthT s k = ((nthT s k).1, (nthT s k).2) from rfl, hh]; rfl)
        clear hh
        go_wp2
        go_roundw
        case rel => exact ⟨k + 1, m, by omega, by go_num, rfl, by omega, hn, HB3.out⟩
        case measure => simp [RowKit.intOf]; omega
    · obtain rfl : k = Ls := by omega
      have Hv := Lib.hid (show m = unusualB (usualB l) s by
        have := hme.out
        rwa [HLs.out, List.take_length] at this)
      clear hbw
      go_wp2
      go_ret
      exact ⟨by rw [← Hv.out]; rfl, HBT.out⟩

end Go.Proofs.YtaahdhpljlkfjaaGreat.Va
