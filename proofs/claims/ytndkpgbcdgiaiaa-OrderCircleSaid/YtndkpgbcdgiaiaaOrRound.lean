/- The law's own way: places without an edge to one that is left go, one by one. -/
import Derived.Test.YtndkpgbcdgiaiaaOrCircle
namespace Go.Proofs.Ytndkpgbcdgiaiaa.Or
open Go.RowKit

def RoundPost (w : World) (n : Nat) (Ln : Nat → Nat) (Z : Nat → Nat → Int) (e : Ending) (w' : World) : Prop :=
  Below w.heap.size w w' ∧ ((e = .returned (.bool true) ∧ Round n Ln Z) ∨ (e = .returned (.bool false) ∧ ¬ Round n Ln Z))

def bls (l : List Bool) : List Value := l.map Value.bool
theorem bls_get {l : List Bool} {p : Nat} (h : p < l.length) : (bls l)[p]? = some (.bool (bat l p)) := by
  unfold bls bat; simp [List.getD_eq_getElem?_getD, h]

theorem bool_info : (Try.prog.info? 4).map (fun i => (i.zero, i.size, i.bytes)) = some (some (.bool false), 1, 1) := by kernel_rfl

theorem make_bools (n : Nat) (hn : n ≤ 65537) (x : Int) (hx : x = n) (W : World) : (Instr.makeSlice 29 (.int .i64 x) (.int .i64 x)).run Try.prog W = .ok (.slice (some ⟨W.heap.size, 0, none⟩) n n) (W.alloc (.cells (bls (List.replicate n false)).toArray 4)) := by
  subst hx
  obtain ⟨i0, hi0, hz0, hz1, hz2⟩ := info_parts bool_info
  rw [run_make (P := Try.prog) W 29 4 i0 _ Try.underlying29 hi0 hz0 .i64 .i64 n n (by omega) (by omega) (by rw [hz2]; omega) (by omega), hz1]
  have e : madeCells (Value.bool false).cells n = (bls (List.replicate n false)).toArray := by
    apply Array.ext'
    have := toList_madeCells_one (.bool false) n
    rw [show (Value.bool false).cells = #[.bool false] from rfl, this]
    simp [bls]
  simp [e]

/-- The sweep in memory. -/
structure Gone (w wr : World) (n : Nat) (Ln : Nat → Nat) (Z : Nat → Nat → Int) (r p : Nat) (g : List Bool) : Prop where
  sweep : Sweep n Ln Z r p g
  row : wr.heap[w.heap.size]? = some (.cells (bls g).toArray 4 (0, 0))
  bel : Below w.heap.size w wr

theorem gone_start {w : World} {n : Nat} {Ln : Nat → Nat} {Z : Nat → Nat → Int} : Gone w (w.alloc (.cells (bls (List.replicate n false)).toArray 4)) n Ln Z 0 0 (List.replicate n false) :=
  ⟨sweep_start, heap_alloc_new w _, (Below.refl _ _).alloc (Nat.le_refl _) _⟩

theorem Gone.cell {w wr : World} {n r p x : Nat} {Ln : Nat → Nat} {Z : Nat → Nat → Int} {g : List Bool} (h : Gone w wr n Ln Z r p g) (hx : x < n) : wr.cell? ⟨w.heap.size, x, none⟩ = some (.bool (bat g x)) :=
  cells_get h.row x (by have := h.sweep.len; simpa using bls_get (by omega))

theorem Gone.step {w wr : World} {n r p : Nat} {Ln : Nat → Nat} {Z : Nat → Nat → Int} {g : List Bool} (h : Gone w wr n Ln Z r p g) (hp : p < n) (held : Bool) (hh : held = true ↔ HeldBy n Z g p (Ln p)) (b : Bool) (hb : b = (bat g p || !held)) :
    Gone w (wr.setCell ⟨w.heap.size, p, none⟩ (.bool b)) n Ln Z r (p + 1) (g.set p b) := by
  subst hb
  refine ⟨h.sweep.step hp held hh, ?_, Touch.belows h.bel ((Touch.refl wr (fun i => i = w.heap.size)).set _ _ _ rfl) (Nat.le_refl _) (fun i hi => by rw [hi]; exact Nat.le_refl _)⟩
  rw [cells_set h.row p _]
  simp [bls]

theorem held_next {n p k : Nat} {Z : Nat → Nat → Int} {g : List Bool} {hb c : Bool} (h : hb = true ↔ HeldBy n Z g p k) (hc : c = true ↔ ∃ v : Nat, v < n ∧ Z p k = (v : Int) ∧ bat g v = false) (b : Bool) (e : b = (hb || c)) : b = true ↔ HeldBy n Z g p (k + 1) := by
  subst e
  rw [Bool.or_eq_true, h, hc]
  constructor
  · rintro (⟨i, hi, hv⟩ | hv)
    · exact ⟨i, by omega, hv⟩
    · exact ⟨k, by omega, hv⟩
  · rintro ⟨i, hi, hv⟩
    by_cases e : i = k
    · subst e; exact .inr hv
    · exact .inl ⟨i, by omega, hv⟩

set_option maxHeartbeats 3200000 in
theorem round_any (w : World) (A : Option Addr) (n cap : Nat) (Ln : Nat → Nat) (Z : Nat → Nat → Int) (hn : n ≤ 1000) (hE : RowsAt w A n Ln Z) :
    Calls Try.prog 7 #[.slice A n cap] w (RoundPost w n Ln Z) := by
  have HE := Lib.hid hE
  clear hE
  have mk := make_bools n (by omega) (n : Int) rfl
  have HG0 := Lib.hid (gone_start (w := w) (n := n) (Ln := Ln) (Z := Z))
  go_enter Try.func7, Try.ntmps7
  go_wp2
  clear mk
  go_loopw [16] (fun i wr => ∃ (r : Nat) (g : List Bool), i = .int .i64 (r : Int) ∧ r ≤ n ∧ Gone w wr n Ln Z r 0 g) (fun i _ => n - (intOf i).toNat)
  case atStart => exact ⟨0, _, rfl, by omega, HG0.out⟩
  case round =>
    clear HG0
    obtain ⟨r, g, rfl, hr, hG⟩ := hrel
    have HG := Lib.hid hG
    clear hG
    by_cases hrn : r < n
    · go_wp2
      go_loopw [20] (fun i wr => ∃ (p : Nat) (g : List Bool), i = .int .i64 (p : Int) ∧ p ≤ n ∧ Gone w wr n Ln Z r p g) (fun i _ => n - (intOf i).toNat)
      case atStart => exact ⟨0, _, rfl, by omega, HG.out⟩
      case round =>
        clear HG
        obtain ⟨p, g, rfl, hp, hG⟩ := hrel
        have HG := Lib.hid hG
        clear hG
        by_cases hpn : p < n
        · have hE := HE.out
          rcases hE with h0 | ⟨b, off, rfl, hE⟩
          · omega
          obtain ⟨q1, q2, x, c, q3, q4, q5⟩ := hE p hpn
          have q3 := (HG.out.bel.cell (p := ⟨b, off + p, none⟩) q2).trans q3
          have Q5 := Lib.hid q5
          unfold maxLen at q1
          clear q5 hE
          obtain ⟨D, hD⟩ : ∃ D, Ln p = D := ⟨_, rfl⟩
          rw [hD] at q1 q3 q4
          have HD := Lib.hid hD
          clear hD
          go_wp2
          clear q3
          go_loop [6, 27] (fun h i => ∃ (k : Nat) (hb : Bool), i = .int .i64 (k : Int) ∧ h = .bool hb ∧ k ≤ D ∧ (hb = true ↔ HeldBy n Z g p k)) (fun _ i => D - (intOf i).toNat)
          case atStart => exact ⟨0, false, rfl, rfl, by omega, ⟨(fun h => by cases h), fun ⟨i, hi, _⟩ => by omega⟩⟩
          case round =>
            obtain ⟨k, hb, rfl, rfl, hk, hh⟩ := hrel
            have HH := Lib.hid hh
            clear hh
            by_cases hkd : k < D
            · obtain ⟨z1, bb, oo, rfl, z2, z3⟩ := Q5.out k (by rw [HD.out]; exact hkd)
              have z3 := (HG.out.bel.cell (p := ⟨bb, oo + k, none⟩) z2).trans z3
              obtain ⟨z, hz⟩ : ∃ z, Z p k = z := ⟨_, rfl⟩
              rw [hz] at z1 z3
              obtain ⟨y1, y2⟩ := bounds_i64' z1
              have HZ := Lib.hid hz
              clear z1 hz
              cases hb with
              | true =>
                go_wp2
                go_round
                case rel => exact ⟨k + 1, true, by first | rfl | go_num, rfl, hkd, ⟨fun _ => by obtain ⟨i, hi, hv⟩ := HH.out.1 rfl; exact ⟨i, by omega, hv⟩, fun _ => rfl⟩⟩
                case measure => simp [intOf]; omega
              | false =>
                by_cases hz0 : z < 0
                · go_wp2
                  go_round
                  case rel => exact ⟨k + 1, false, by first | rfl | go_num, rfl, hkd, held_next HH.out (c := false) ⟨(fun h => by cases h), fun ⟨v, _, e, _⟩ => by rw [HZ.out] at e; omega⟩ _ rfl⟩
                  case measure => simp [intOf]; omega
                · by_cases hzn : (n : Int) ≤ z
                  · go_wp2
                    go_round
                    case rel => exact ⟨k + 1, false, by first | rfl | go_num, rfl, hkd, held_next HH.out (c := false) ⟨(fun h => by cases h), fun ⟨v, _, e, _⟩ => by rw [HZ.out] at e; omega⟩ _ rfl⟩
                    case measure => simp [intOf]; omega
                  · obtain ⟨t, rfl⟩ : ∃ t : Nat, z = (t : Int) := ⟨z.toNat, by omega⟩
                    have htn : t < n := by omega
                    have ct := HG.out.cell htn
                    obtain ⟨y, hy⟩ : ∃ y, bat g t = y := ⟨_, rfl⟩
                    rw [hy] at ct
                    have HY := Lib.hid hy
                    clear hy hz0 hzn
                    have HN : Hid ((!y) = true ↔ ∃ v : Nat, v < n ∧ Z p k = (v : Int) ∧ bat g v = false) := Lib.hid ⟨fun e => ⟨t, htn, HZ.out, by rw [HY.out]; simpa using e⟩, fun ⟨v, _, e, hv⟩ => by
                      rw [HZ.out] at e
                      have : v = t := by omega
                      rw [this, HY.out] at hv; simp [hv]⟩
                    cases y with
                    | true =>
                      go_wp2
                      go_round
                      case rel => exact ⟨k + 1, false, by first | rfl | go_num, rfl, hkd, held_next HH.out HN.out _ rfl⟩
                      case measure => simp [intOf]; omega
                    | false =>
                      go_wp2
                      go_round
                      case rel => exact ⟨k + 1, true, by first | rfl | go_num, rfl, hkd, held_next HH.out HN.out _ rfl⟩
                      case measure => simp [intOf]; omega
            · have hkD : k = D := by omega
              subst hkD
              have HD2 : Hid (hb = true ↔ HeldBy n Z g p (Ln p)) := by rw [HD.out]; exact HH
              have cp := HG.out.cell hpn
              have cf := cells_free HG.out.row p
              obtain ⟨y, hy⟩ : ∃ y, bat g p = y := ⟨_, rfl⟩
              rw [hy] at cp
              have HY := Lib.hid hy
              clear hy
              cases y with
              | true =>
                go_wp2
                go_roundw
                case rel => exact ⟨p + 1, _, by first | rfl | go_num, by omega, HG.out.step hpn hb HD2.out true (by rw [HY.out]; rfl)⟩
                case measure => simp [intOf]; omega
              | false =>
                cases hb with
                | true =>
                  go_wp2
                  go_roundw
                  case rel => exact ⟨p + 1, _, by first | rfl | go_num, by omega, HG.out.step hpn true HD2.out false (by rw [HY.out]; rfl)⟩
                  case measure => simp [intOf]; omega
                | false =>
                  go_wp2
                  go_roundw
                  case rel => exact ⟨p + 1, _, by first | rfl | go_num, by omega, HG.out.step hpn false HD2.out true (by rw [HY.out]; rfl)⟩
                  case measure => simp [intOf]; omega
        · have hpN : p = n := by omega
          subst hpN
          go_wp2
          go_roundw
          case rel => exact ⟨r + 1, g, by first | rfl | go_num, by omega, ⟨HG.out.sweep.turn, HG.out.row, HG.out.bel⟩⟩
          case measure => simp [intOf]; omega
    · have hrN : r = n := by omega
      subst hrN
      go_wp2
      go_loop [65] (fun i => ∃ k : Nat, i = .int .i64 (k : Int) ∧ k ≤ r ∧ ∀ q, q < k → bat g q = true) (fun i => r - (intOf i).toNat)
      case atStart => exact ⟨0, rfl, by omega, fun q hq => by omega⟩
      case round =>
        obtain ⟨k, rfl, hk, hall⟩ := hrel
        have HA := Lib.hid hall
        clear hall
        by_cases hkr : k < r
        · have ck := HG.out.cell hkr
          obtain ⟨y, hy⟩ : ∃ y, bat g k = y := ⟨_, rfl⟩
          rw [hy] at ck
          have HY := Lib.hid hy
          clear hy
          cases y with
          | true =>
            go_wp2
            go_round
            case rel => exact ⟨k + 1, by first | rfl | go_num, hkr, fun q hq => by
                by_cases e : q = k
                · rw [e]; exact HY.out
                · exact HA.out q (by omega)⟩
            case measure => simp [intOf]; omega
          | false =>
            go_wp2
            go_ret
            exact ⟨HG.out.bel, .inl ⟨rfl, HG.out.sweep.found hkr HY.out⟩⟩
        · go_wp2
          go_ret
          exact ⟨HG.out.bel, .inr ⟨rfl, HG.out.sweep.none fun q hq => HA.out q (by omega)⟩⟩

end Go.Proofs.Ytndkpgbcdgiaiaa.Or
