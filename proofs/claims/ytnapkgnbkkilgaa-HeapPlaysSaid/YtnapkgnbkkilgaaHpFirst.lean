/- HeapPlays: the law's own first one; operations that come in. -/
import Derived.Test.YtnapkgnbkkilgaaHpBump
import Derived.Deep.Slices
import Derived.ChangeSame
import Derived.Lib.SmallJoins
namespace Go.Proofs.Ytnapkgnbkkilgaa.Hp
open Go.RowKit Go.ChangeShapes Go.WideShapes Go.Deep Go.Joins

def bls (l : List Bool) : List Value := l.map Value.bool
def bat (l : List Bool) (p : Nat) : Bool := l.getD p false
theorem bls_get {l : List Bool} {p : Nat} (h : p < l.length) : (bls l)[p]? = some (.bool (bat l p)) := by
  unfold bls bat; simp [List.getD_eq_getElem?_getD, h]
theorem bat_set {l : List Bool} {p q : Nat} {x : Bool} (hp : p < l.length) : bat (l.set p x) q = if q = p then x else bat l q := by
  unfold bat
  by_cases h : q = p
  · subst h; rw [if_pos rfl]; simp [List.getD_eq_getElem?_getD, hp]
  · rw [if_neg h]; simp [List.getD_eq_getElem?_getD, List.getElem?_set_ne (Ne.symm h)]

/-- r is the place, from 1 on, of the first one of those that are in; 0, if none is. -/
def First (mi : List Bool) (ms : List Nat) (k r : Nat) : Prop :=
  (r = 0 ∧ ∀ j, j < k → bat mi j = false) ∨ (1 ≤ r ∧ r ≤ k ∧ bat mi (r - 1) = true ∧ ∀ j, j < k → bat mi j = true → at' ms j < at' ms (r - 1) ∨ (at' ms j = at' ms (r - 1) ∧ r - 1 ≤ j))

theorem first_next {mi : List Bool} {ms : List Nat} {k r : Nat} (h : First mi ms k r) :
    (bat mi k = false ∧ First mi ms (k + 1) r) ∨ (bat mi k = true ∧ r = 0 ∧ First mi ms (k + 1) (k + 1)) ∨
    (bat mi k = true ∧ 1 ≤ r ∧ at' ms (r - 1) < at' ms k ∧ First mi ms (k + 1) (k + 1)) ∨ (bat mi k = true ∧ 1 ≤ r ∧ ¬ at' ms (r - 1) < at' ms k ∧ First mi ms (k + 1) r) := by
  cases hb : bat mi k with
  | false =>
    refine .inl ⟨rfl, ?_⟩
    rcases h with ⟨h1, h2⟩ | ⟨h1, h2, h3, h4⟩
    · refine .inl ⟨h1, fun j hj => ?_⟩
      by_cases e : j = k
      · rw [e]; exact hb
      · exact h2 j (by omega)
    · refine .inr ⟨h1, by omega, h3, fun j hj hm => ?_⟩
      by_cases e : j = k
      · rw [e, hb] at hm; cases hm
      · exact h4 j (by omega) hm
  | true =>
    right
    rcases h with ⟨h1, h2⟩ | ⟨h1, h2, h3, h4⟩
    · refine .inl ⟨rfl, h1, .inr ⟨by omega, Nat.le_refl _, by simpa using hb, fun j hj hm => ?_⟩⟩
      by_cases e : j = k
      · subst e; exact .inr ⟨by simp, by simp⟩
      · rw [h2 j (by omega)] at hm; cases hm
    · right
      by_cases hc : at' ms (r - 1) < at' ms k
      · refine .inl ⟨rfl, h1, hc, .inr ⟨by omega, Nat.le_refl _, by simpa using hb, fun j hj hm => ?_⟩⟩
        rw [Nat.add_sub_cancel]
        by_cases e : j = k
        · subst e; exact .inr ⟨rfl, Nat.le_refl _⟩
        · rcases h4 j (by omega) hm with h5 | ⟨h5, _⟩
          · exact .inl (by omega)
          · exact .inl (by omega)
      · refine .inr ⟨rfl, h1, hc, .inr ⟨h1, by omega, h3, fun j hj hm => ?_⟩⟩
        by_cases e : j = k
        · subst e
          by_cases e2 : at' ms j = at' ms (r - 1)
          · exact .inr ⟨e2, by omega⟩
          · exact .inl (by omega)
        · exact h4 j (by omega) hm

set_option maxRecDepth 100000 in
set_option maxHeartbeats 1600000 in
theorem first_is (w : World) (IB SB n : Nat) (mi : List Bool) (ms : List Nat) (hi : w.heap[IB]? = some (.cells (bls mi).toArray 4 (0, 0))) (hs : w.heap[SB]? = some (.cells (u64s ms).toArray 28 (0, 0)))
    (li : mi.length = n) (ls : ms.length = n) (hn : n ≤ 1000) :
    Calls Try.prog 12 #[.slice (some ⟨IB, 0, none⟩) n n, .slice (some ⟨SB, 0, none⟩) n n] w fun e w' => ∃ r : Nat, e = .returned (.int .i64 (r : Int)) ∧ First mi ms n r ∧ ∃ m, w' = w.drewN m := by
  have HI := Lib.hid hi
  have HS := Lib.hid hs
  have LI := Lib.hid li
  have LS := Lib.hid ls
  clear hi hs li ls
  go_enter Try.func12, Try.ntmps12
  go_wp2
  go_loopw [5, 9] (fun t u wr => ∃ k r m : Nat, t = .int .i64 ((r : Int) - 1) ∧ u = .int .i64 (k : Int) ∧ k ≤ n ∧ First mi ms k r ∧ wr = w.drewN m) (fun _ u _ => n - (intOf u).toNat)
  case atStart => exact ⟨0, 0, 0, rfl, rfl, by omega, .inl ⟨rfl, by simp⟩, rfl⟩
  case round =>
    obtain ⟨k, r, m, rfl, rfl, hk, hF, rfl⟩ := hrel
    by_cases hlt : k < n
    · have ck := cells_get HI.out k (v := .bool (bat mi k)) (by simpa using bls_get (by rw [LI.out]; exact hlt))
      have sk := cells_get HS.out k (v := .int .u64 (at' ms k : Nat)) (by simpa using u64s_get (at_get (by rw [LS.out]; exact hlt)))
      have i1 : (0 : Int) ≤ (k : Int) := by omega
      have i2 : (k : Int) < (n : Int) := by omega
      rcases first_next hF with ⟨hb, hN⟩ | ⟨hb, rfl, hN⟩ | ⟨hb, h1, hc, hN⟩ | ⟨hb, h1, hc, hN⟩
      · rw [hb] at ck
        have HN := Lib.hid hN
        clear hF hb hN
        go_wp2
        go_quiet (fail)
        go_wp2
        go_roundw
        case rel => exact ⟨k + 1, r, _, rfl, by first | rfl | go_num, by omega, HN.out, by first | rfl | rw [World.drewN_drewN]⟩
        case measure => simp [intOf]; omega
      · rw [hb] at ck
        have HN := Lib.hid hN
        clear hF hb hN
        go_wp2
        go_quiet (fail)
        go_wp2
        go_roundw
        case rel => exact ⟨k + 1, k + 1, _, by first | rfl | go_num | simp, by first | rfl | go_num, by omega, HN.out, by first | rfl | rw [World.drewN_drewN]⟩
        case measure => simp [intOf]; omega
      · rw [hb] at ck
        have HN := Lib.hid hN
        have hrk : r ≤ k := by rcases hF with ⟨h, _⟩ | ⟨_, h, _⟩ <;> omega
        clear hF hb hN
        obtain ⟨q, rfl⟩ : ∃ q, r = q + 1 := ⟨r - 1, by omega⟩
        have sq := cells_get HS.out q (v := .int .u64 (at' ms q : Nat)) (by simpa using u64s_get (at_get (by rw [LS.out]; omega)))
        rw [Nat.add_sub_cancel] at hc
        have i3 : (0 : Int) ≤ (q : Int) := by omega
        have i4 : (q : Int) < (n : Int) := by omega
        have g1 : ¬ (q : Int) < 0 := by omega
        have g2 : decide ((q : Int) < 0) = false := by simp
        have g3 : decide ((at' ms q : Int) < (at' ms k : Int)) = true := by simp; omega
        go_wp2
        go_quiet (fail)
        go_wp2
        go_roundw
        case rel => exact ⟨k + 1, k + 1, _, by first | rfl | go_num | simp, by first | rfl | go_num, by omega, HN.out, by first | rfl | rw [World.drewN_drewN]⟩
        case measure => simp [intOf]; omega
      · rw [hb] at ck
        have HN := Lib.hid hN
        have hrk : r ≤ k := by rcases hF with ⟨h, _⟩ | ⟨_, h, _⟩ <;> omega
        clear hF hb hN
        obtain ⟨q, rfl⟩ : ∃ q, r = q + 1 := ⟨r - 1, by omega⟩
        have sq := cells_get HS.out q (v := .int .u64 (at' ms q : Nat)) (by simpa using u64s_get (at_get (by rw [LS.out]; omega)))
        rw [Nat.add_sub_cancel] at hc
        have i3 : (0 : Int) ≤ (q : Int) := by omega
        have i4 : (q : Int) < (n : Int) := by omega
        have g1 : ¬ (q : Int) < 0 := by omega
        have g2 : decide ((q : Int) < 0) = false := by simp
        have g3 : decide ((at' ms q : Int) < (at' ms k : Int)) = false := by simp; omega
        go_wp2
        go_quiet (fail)
        go_wp2
        go_roundw
        case rel => exact ⟨k + 1, q + 1, _, by first | rfl | go_num | simp, by first | rfl | go_num, by omega, HN.out, by first | rfl | rw [World.drewN_drewN]⟩
        case measure => simp [intOf]; omega
    · obtain rfl : k = n := by omega
      have hrb : r ≤ k := by rcases hF with ⟨h, _⟩ | ⟨_, h, _⟩ <;> omega
      go_wp2
      go_ret
      exact ⟨r, by first | rfl | simp | (congr 1; congr 1; omega), hF, m, rfl⟩

/-! Operations that come in. -/
structure Opn where
  kind : Int
  atom : Int
  by' : Nat

def IsOps (w : World) (A : Option Addr) (len cap : Nat) (l : List Opn) : Prop :=
  l.length = len ∧ len ≤ cap ∧ cap ≤ maxLen ∧ (∀ x ∈ l, (-9223372036854775808 ≤ x.atom ∧ x.atom ≤ 9223372036854775807) ∧ x.by' < 18446744073709551616) ∧
  ∀ (i : Nat) (x : Opn), l[i]? = some x → ∃ b off, A = some ⟨b, off, none⟩ ∧ b < w.heap.size ∧ w.cell? ⟨b, off + i * 3, none⟩ = some (.int .i64 x.kind) ∧ w.cell? ⟨b, off + i * 3 + 1, none⟩ = some (.int .i64 x.atom) ∧ w.cell? ⟨b, off + i * 3 + 2, none⟩ = some (.int .u64 (x.by' : Int))

theorem add_spot {a : Addr} (h : a.spot = none) (j : Nat) : a.add j = ⟨a.block, a.off + j, none⟩ := by
  obtain ⟨b, off, s⟩ := a
  simp at h; subst h
  unfold Addr.add; split <;> simp_all

theorem bounds_u64 {n : Int} (h : (Lit.int .u64 n).wf = true) : 0 ≤ n ∧ n < 18446744073709551616 := by
  simp [Lit.wf, IntKind.min, IntKind.max, IntKind.bits, IntKind.signed] at h; omega
theorem bounds_i64' {n : Int} (h : (Lit.int .i64 n).wf = true) : -9223372036854775808 ≤ n ∧ n ≤ 9223372036854775807 := by
  simp [Lit.wf, IntKind.min, IntKind.max, IntKind.bits, IntKind.signed] at h; omega

theorem open_ops {H : Type} {enc : TypeId × Value → H} {W : World} {base : Nat} {spare : Nat → Bool} {held : Bool} {fuel : Nat} {cs : List Value} {x : DataW H × List MemPlace}
    (h : DataW.trod enc Try.prog W base spare held fuel 22 cs = some x) : ∃ A len cap l, cs = [.slice A len cap] ∧ IsOps W A len cap l := by
  rcases open_slice Try.underlying22 h with ⟨h0, _⟩ | ⟨a, len, cap, m, n, D, Pl, hcs, _, hl, hm, hmm, _, hi⟩
  · exact ⟨none, 0, 0, [], h0, rfl, Nat.le_refl _, Nat.zero_le _, by simp, fun i x hx => by simp at hx⟩
  · have hlm : len ≤ m := by rw [hmm]; split <;> omega
    have e2 : Try.prog.cellsOf 30 = 3 := by kernel_rfl
    have e3 : Try.prog.cellsOf 28 = 1 := by kernel_rfl
    have e4 : Try.prog.cellsOf 3 = 1 := by kernel_rfl
    have hs0 : 0 < len → a.spot = none := fun h0 => by
      obtain ⟨cs', hc, ht⟩ := hi 0 (by omega)
      rw [e2] at hc
      obtain ⟨_, hcl, hat⟩ := World.cells?_some hc
      have c0 := hat 0 (by omega)
      rw [List.getElem?_eq_getElem (by omega)] at c0
      simpa [Addr.add] using World.cell?_spot c0
    have hx : ∀ i, ∃ x : Opn, i < len → ((-9223372036854775808 ≤ x.atom ∧ x.atom ≤ 9223372036854775807) ∧ x.by' < 18446744073709551616) ∧ a.spot = none ∧ a.block < W.heap.size ∧ W.cell? ⟨a.block, a.off + i * 3, none⟩ = some (.int .i64 x.kind) ∧ W.cell? ⟨a.block, a.off + i * 3 + 1, none⟩ = some (.int .i64 x.atom) ∧ W.cell? ⟨a.block, a.off + i * 3 + 2, none⟩ = some (.int .u64 (x.by' : Int)) := by
      intro i
      by_cases hil : i < len
      · obtain ⟨cs', hc, ht⟩ := hi i (by omega)
        rw [e2] at hc
        obtain ⟨_, hcl, hat⟩ := World.cells?_some hc
        obtain ⟨y0, y1, y2, n', _, hlen, h0, h1, h2⟩ := trod_struct3 Try.underlying30 ht
        rw [e2] at hlen
        match cs', hlen with
        | [v0, v1, v2], _ =>
          simp only [e3, e4, List.drop_zero, List.drop_succ_cons, List.take_succ_cons, List.take_zero] at h0 h1 h2
          obtain ⟨z0, q0, _, w0⟩ := DataW.trod_int Try.underlying3 h0
          obtain ⟨z1, q1, _, w1⟩ := DataW.trod_int Try.underlying3 h1
          obtain ⟨z2, q2, _, w2⟩ := DataW.trod_int Try.underlying28 h2
          simp at q0 q1 q2
          subst q0; subst q1; subst q2
          have c0 := hat 0 (by omega)
          have c1 := hat 1 (by omega)
          have c2 := hat 2 (by omega)
          simp at c0 c1 c2
          have hs : a.spot = none := hs0 (by omega)
          have hb : a.block < W.heap.size := by
            have := World.block_lt_of_cell? W _ c0
            rw [add_spot hs, add_spot rfl] at this
            exact this
          rw [add_spot hs, add_spot rfl] at c0 c1 c2
          obtain ⟨b1, b2⟩ := bounds_u64 w2
          obtain ⟨d, rfl⟩ := Int.eq_ofNat_of_zero_le b1
          exact ⟨⟨z0, z1, d⟩, fun _ => ⟨⟨bounds_i64' w1, by show d < _; omega⟩, hs, hb, c0, c1, c2⟩⟩
      · exact ⟨⟨0, 0, 0⟩, fun h => absurd h hil⟩
    obtain ⟨f, hf⟩ := Classical.axiomOfChoice hx
    refine ⟨some a, len, cap, (List.range len).map f, hcs, by simp, hl, hm, ?_, ?_⟩
    · intro x hx
      obtain ⟨i, hi, rfl⟩ := List.mem_map.1 hx
      exact (hf i (List.mem_range.1 hi)).1
    · intro i x hx
      have hil : i < len := by have := (List.getElem?_eq_some_iff.1 hx).1; simpa using this
      simp [hil] at hx
      subst hx
      obtain ⟨_, hs, hb, c0, c1, c2⟩ := hf i hil
      refine ⟨a.block, a.off, ?_, hb, c0, c1, c2⟩
      obtain ⟨b, off, s⟩ := a
      simp at hs
      rw [hs]

end Go.Proofs.Ytnapkgnbkkilgaa.Hp
