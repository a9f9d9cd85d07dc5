/- Most, One, New, Bad, Full: a builder that isn't full. -/
import Derived.Test.YtiomocmceccmbaaCnBuild
import Derived.Deep.RegionHeld3
namespace Go.Proofs.Ytiomocmceccmbaa.Cn
open Go.RowKit

/-- A clause is added to a builder that has room. -/
def AddS (zs : List Int) (ls : List (List Int)) (bad : Bool) (ls' : List (List Int)) (bad' : Bool) : Prop :=
  (Bad zs ∧ ls' = ls ∧ bad' = (bad || !zs.all litB)) ∨ ∃ f, Good zs f ∧ ls' = ls ++ [f] ∧ bad' = bad
def Adds : List (List Int) → List (List Int) → Bool → List (List Int) → Bool → Prop
  | [], ls, bad, ls', bad' => ls' = ls ∧ bad' = bad
  | c :: r, ls, bad, ls', bad' => ∃ m b, AddS c ls bad m b ∧ Adds r m b ls' bad'
theorem Adds.snoc : ∀ {P : List (List Int)} {ls m : List (List Int)} {bad b : Bool} {c : List Int} {ls' : List (List Int)} {bad' : Bool}, Adds P ls bad m b → AddS c m b ls' bad' → Adds (P ++ [c]) ls bad ls' bad'
  | [], _, _, _, _, _, _, _, h, k => by obtain ⟨rfl, rfl⟩ := h; exact ⟨_, _, k, rfl, rfl⟩
  | _ :: _, _, _, _, _, _, _, _, ⟨m, b, h1, h2⟩, k => ⟨m, b, h1, h2.snoc k⟩
theorem Adds.append : ∀ {P Q : List (List Int)} {ls m : List (List Int)} {bad b : Bool} {ls' : List (List Int)} {bad' : Bool}, Adds P ls bad m b → Adds Q m b ls' bad' → Adds (P ++ Q) ls bad ls' bad'
  | [], _, _, _, _, _, _, _, h, k => by obtain ⟨rfl, rfl⟩ := h; exact k
  | _ :: _, _, _, _, _, _, _, _, ⟨m, b, h1, h2⟩, k => ⟨m, b, h1, h2.append k⟩
theorem AddS.len {zs : List Int} {ls ls' : List (List Int)} {bad bad' : Bool} (h : AddS zs ls bad ls' bad') : ls'.length ≤ ls.length + 1 := by
  rcases h with ⟨_, rfl, _⟩ | ⟨f, _, rfl, _⟩
  · omega
  · simp

theorem addS_of {zs : List Int} {ls ls' : List (List Int)} {bad bad' full' : Bool} (h : AddSpec zs ls ls' bad bad' false full') (hl : ls.length < maxC) : full' = false ∧ AddS zs ls bad ls' bad' := by
  rcases h with ⟨h1, h2, h3, h4⟩ | ⟨f, h1, h2, h3 | ⟨_, h4, h5⟩⟩
  · exact ⟨h3, .inl ⟨h1, h2, h4⟩⟩
  · omega
  · exact ⟨h5, .inr ⟨f, h1, h4, h2⟩⟩

/-- A builder with room, and a row beside it. -/
structure Side (w0 : World) (v0 : Value) (w : World) (base B : Nat) (a : Value) (ba : Nat) (zs : List Int) (v : Value) (vs : List Value) (ls : List (List Int)) (bad : Bool) : Prop where
  bld : Bld w base B v vs ls bad false
  row : Row w ba a zs
  apart : zs ≠ [] → ∀ b, a.ownBlock = some b → ¬ (b = B ∨ v.ownBlock = some b)
  touch : Touch w0 w (fun b => b = B ∨ v0.ownBlock = some b)
  own : v.ownBlock = v0.ownBlock ∨ ∃ g, v.ownBlock = some g ∧ w0.heap.size ≤ g

theorem Side.below {w0 w w' : World} {v0 a v : Value} {base B ba : Nat} {zs : List Int} {vs : List Value} {ls : List (List Int)} {bad : Bool} (h : Side w0 v0 w base B a ba zs v vs ls bad) (hb : Below w.heap.size w w') : Side w0 v0 w' base B a ba zs v vs ls bad :=
  ⟨h.bld.below hb, h.row.below hb, h.apart, h.touch.trans (Touch.of_below (S := fun _ => False) hb) (fun _ _ h => h.elim), h.own⟩

theorem Side.add {w0 w w' : World} {v0 a v : Value} {base B ba : Nat} {zs c : List Int} {vs : List Value} {ls : List (List Int)} {bad : Bool} {e : Ending} (h : Side w0 v0 w base B a ba zs v vs ls bad) (hp : AddPost w base B v c ls bad false e w') (hl : ls.length < maxC) :
    e = .returned (.tuple #[]) ∧ ∃ v' vs' ls' bad', AddS c ls bad ls' bad' ∧ Side w0 v0 w' base B a ba zs v' vs' ls' bad' := by
  obtain ⟨he, v', vs', ls', bad', full', hb, hs, ht, ho⟩ := hp
  obtain ⟨rfl, hsa⟩ := addS_of hs hl
  refine ⟨he, v', vs', ls', bad', hsa, hb, h.row.touchs ht h.apart, fun hne b hb' => ?_, h.touch.trans ht (fun i hi hh => ?_), ?_⟩
  · intro hh
    rcases hh with hh | hh
    · exact h.apart hne b hb' (.inl hh)
    · rcases ho with e | ⟨g, e, hg⟩
      · exact h.apart hne b hb' (.inr (e ▸ hh))
      · rw [e] at hh; injection hh with hh; subst hh
        have := (h.row.block hne _ hb').2; omega
  · rcases hh with hh | hh
    · exact .inl hh
    · rcases h.own with e | ⟨g, e, hg⟩
      · exact .inr (e ▸ hh)
      · rw [e] at hh; injection hh with hh; subst hh; omega
  · rcases ho with e | ⟨g, e, hg⟩
    · rcases h.own with e2 | ⟨g, e2, hg⟩
      · exact .inl (e.trans e2)
      · exact .inr ⟨g, e.trans e2, hg⟩
    · exact .inr ⟨g, e, Nat.le_trans h.touch.size hg⟩

/-- The pairs of a row, of opposites. -/
def pairsAt (zs : List Int) (i k : Nat) : List (List Int) := (List.range' (i + 1) k).map fun j => [-nthI zs i, -nthI zs j]
def pairs (zs : List Int) (m : Nat) : List (List Int) := (List.range m).flatMap fun i => pairsAt zs i (zs.length - (i + 1))
theorem pairsAt_succ (zs : List Int) (i k : Nat) : pairsAt zs i (k + 1) = pairsAt zs i k ++ [[-nthI zs i, -nthI zs (i + 1 + k)]] := by
  unfold pairsAt; rw [List.range'_concat]; simp
theorem pairs_succ (zs : List Int) (m : Nat) : pairs zs (m + 1) = pairs zs m ++ pairsAt zs m (zs.length - (m + 1)) := by
  unfold pairs; rw [List.range_succ]; simp

theorem row_pair (w : World) (x y : Int) (hx : -9223372036854775808 ≤ x ∧ x ≤ 9223372036854775807) (hy : -9223372036854775808 ≤ y ∧ y ≤ 9223372036854775807) :
    Row (w.alloc (.cells #[.int .i64 x, .int .i64 y] 3)) w.heap.size (.slice (some ⟨w.heap.size, 0, none⟩) 2 2) [x, y] := by
  have hh := heap_alloc_new w (.cells #[.int .i64 x, .int .i64 y] 3)
  refine ⟨_, 2, rfl, Nat.le_refl _, by simp [maxLen], .inr ⟨w.heap.size, 0, rfl, Nat.le_refl _, by simp, fun j hj => ?_⟩, fun z hz => ?_⟩
  · rw [Nat.zero_add]
    match j, hj with
    | 0, _ => exact cells_get hh 0 rfl
    | 1, _ => exact cells_get hh 1 rfl
  · simp at hz; rcases hz with rfl | rfl
    · exact hx
    · exact hy

theorem Row.at {w : World} {ba L c : Nat} {A : Option Addr} {zs : List Int} (h : Row w ba (.slice A L c) zs) (hp : 0 < L) : ∃ b off, A = some ⟨b, off, none⟩ ∧ ∀ j, j < L → w.cell? ⟨b, off + j, none⟩ = some (.int .i64 (nthI zs j)) := by
  obtain ⟨A', L', c', e, hL, _, _, h3⟩ := h.open'
  injection e with e1 e2 e3
  subst e1; subst e2; subst e3
  obtain ⟨b, off, ha, _, _, hc⟩ := h3 hp
  exact ⟨b, off, ha, fun j hj => (hc j hj).1⟩

theorem Row.cellOf {w : World} {ba b off L c j : Nat} {zs : List Int} {x : Int} (h : Row w ba (.slice (some ⟨b, off, none⟩) L c) zs) (hj : j < L) (hx : nthI zs j = x) : w.cell? ⟨b, off + j, none⟩ = some (.int .i64 x) := by
  obtain ⟨b', off', e, hc⟩ := h.at (by omega)
  injection e with e; injection e with e1 e2
  subst e1; subst e2
  rw [← hx]; exact hc j hj

def MostPost (w : World) (base B : Nat) (v : Value) (P : List (List Int)) (ls : List (List Int)) (bad : Bool) (a : Value) (ba : Nat) (zs : List Int) (e : Ending) (w' : World) : Prop :=
  e = .returned (.tuple #[]) ∧ ∃ v' vs' ls' bad', Adds P ls bad ls' bad' ∧ Side w v w' base B a ba zs v' vs' ls' bad' ∧ ls'.length ≤ ls.length + 200

set_option maxRecDepth 100000 in
set_option maxHeartbeats 3200000 in
theorem most_any (w : World) (base B : Nat) (v a : Value) (ba : Nat) (zs : List Int) (vs : List Value) (ls : List (List Int)) (bad : Bool) (h : Side w v w base B a ba zs v vs ls bad) (hbase : base ≤ w.heap.size) (hz : zs.length ≤ 12) (hl : ls.length ≤ 60000)
    (hlit : ∀ x ∈ zs, x ≠ -9223372036854775808) :
    Calls Try.prog 16 #[.pointer (some ⟨B, 0, none⟩), a] w (MostPost w base B v (pairs zs zs.length) ls bad a ba zs) := by
  have HS := Lib.hid h
  obtain ⟨A, L, c, rfl, hL, h1, h2, h3⟩ := h.row.open'
  unfold maxLen at h2
  have hL12 : L ≤ 12 := by omega
  have HL := Lib.hid hL
  have H3 := Lib.hid h3
  have HZ := Lib.hid hl
  have HLT := Lib.hid hlit
  clear h hL h3 hz hl hlit
  go_enter Try.func16, Try.ntmps16
  go_wp2
  go_loopw [10] (fun i wr => ∃ (m : Nat) (v' : Value) (vs' : List Value) (ls' : List (List Int)) (bad' : Bool), i = .int .i64 (m : Int) ∧ m ≤ L ∧ Adds (pairs zs m) ls bad ls' bad' ∧ Side w v wr base B (.slice A L c) ba zs v' vs' ls' bad' ∧ ls'.length ≤ ls.length + 12 * m) (fun i _ => L - (intOf i).toNat)
  case atStart => exact ⟨0, v, vs, ls, bad, rfl, by omega, ⟨rfl, rfl⟩, HS.out, by omega⟩
  case round =>
    clear HS
    obtain ⟨m, v', vs', ls', bad', rfl, hm, hadds, hside, hlen⟩ := hrel
    have HA := Lib.hid hadds
    have HS := Lib.hid hside
    have HN := Lib.hid hlen
    clear hadds hside hlen
    by_cases hml : m < L
    · go_wp2
      go_loopw [5] (fun i wr => ∃ (k : Nat) (v' : Value) (vs' : List Value) (ls' : List (List Int)) (bad' : Bool), i = .int .i64 ((m : Int) + 1 + (k : Nat)) ∧ m + 1 + k ≤ L ∧ Adds (pairs zs m ++ pairsAt zs m k) ls bad ls' bad' ∧ Side w v wr base B (.slice A L c) ba zs v' vs' ls' bad' ∧ ls'.length ≤ ls.length + 12 * m + k) (fun i _ => L - (intOf i).toNat)
      case atStart => exact ⟨0, v', vs', ls', bad', by first | rfl | go_num, by omega, by simpa [pairsAt] using HA.out, HS.out, HN.out⟩
      case round =>
        clear HA HS HN
        obtain ⟨k, v', vs', ls', bad', rfl, hk, hadds, hside, hlen⟩ := hrel
        have HA := Lib.hid hadds
        have HS := Lib.hid hside
        have HN := Lib.hid hlen
        clear hadds hside hlen
        by_cases hkl : m + 1 + k < L
        · obtain ⟨b, off, rfl, hcell⟩ := HS.out.row.at (by omega)
          obtain ⟨x, hx⟩ : ∃ x, nthI zs m = x := ⟨_, rfl⟩
          obtain ⟨y, hy⟩ : ∃ y, nthI zs (m + 1 + k) = y := ⟨_, rfl⟩
          have cx := hcell m hml
          have cy := hcell (m + 1 + k) hkl
          rw [hx] at cx
          rw [hy] at cy
          have bx : -9223372036854775807 ≤ x ∧ x ≤ 9223372036854775807 := by
            have h1 := HS.out.row.bounds x (by rw [← hx]; exact nthI_mem (by rw [← HL.out]; exact hml))
            have h2 := HLT.out x (by rw [← hx]; exact nthI_mem (by rw [← HL.out]; exact hml))
            omega
          have by' : -9223372036854775807 ≤ y ∧ y ≤ 9223372036854775807 := by
            have h1 := HS.out.row.bounds y (by rw [← hy]; exact nthI_mem (by rw [← HL.out]; exact hkl))
            have h2 := HLT.out y (by rw [← hy]; exact nthI_mem (by rw [← HL.out]; exact hkl))
            omega
          obtain ⟨x1, x2⟩ := bx
          obtain ⟨y1, y2⟩ := by'
          have HX := Lib.hid hx
          have HY := Lib.hid hy
          clear hx hy hcell
          have i1 : (0 : Int) ≤ (m : Int) + 1 + (k : Int) := by omega
          have i2 : (m : Int) + 1 + (k : Int) < (L : Int) := by omega
          have i3 : (0 : Int) ≤ (m : Int) := by omega
          have i4 : (m : Int) < (L : Int) := by omega
          have n1 : ((m : Int) + 1 + (k : Int)).toNat = m + 1 + k := by omega
          go_wp2_with fail
          have w1 : IntKind.i64.wrap (-x) = -x := IntWalk.i64_in _ (by omega)
          have w2' : IntKind.i64.wrap (-y) = -y := IntWalk.i64_in _ (by omega)
          have HS2 := Lib.hid (HS.out.below (((Below.refl wr.heap.size wr).alloc (Nat.le_refl _) (.cells #[.int .i64 (-x), .int .i64 (-y)] 3)).drew))
          have hbw : base ≤ ((wr.alloc (.cells #[.int .i64 (-x), .int .i64 (-y)] 3)).drew).heap.size := Nat.le_trans hbase HS2.out.touch.size
          have hrow : Row ((wr.alloc (.cells #[.int .i64 (-x), .int .i64 (-y)] 3)).drew) wr.heap.size (.slice (some ⟨wr.heap.size, 0, none⟩) 2 2) [-x, -y] := row_pair wr (-x) (-y) (by omega) (by omega)
          have hlm : ls'.length < maxC := by have h1 := HN.out; have h2 := HZ.out; unfold maxC; omega
          have HLM := Lib.hid hlm
          have HK := Lib.hid (add_any _ base B v' vs' ls' bad' false HS2.out.bld hbw _ _ [-x, -y] hrow (by simp))
          clear hbw hrow hlm
          go_region_held3 (fun w' => w'.cell? ⟨b, off + m, none⟩ = some (.int .i64 x) ∧ w'.cell? ⟨b, off + (m + 1 + k), none⟩ = some (.int .i64 y)) (first | exact ⟨cell_alloc_l _ (by assumption), cell_alloc_l _ (by assumption)⟩ | exact ⟨by assumption, by assumption⟩ | go_keep) ((go_at_call 15; refine HK.out.mono ?_; intro e w2 hp; obtain ⟨rfl, v2, vs2, ls2, bad2, hs2, hside2⟩ := HS2.out.add hp HLM.out; have HSA := Lib.hid hs2; have HSB := Lib.hid hside2; have cx2 := HSB.out.row.cellOf hml HX.out; have cy2 := HSB.out.row.cellOf hkl HY.out; clear hs2 hside2 hp))
          clear w1 w2' n1
          go_wp2
          go_roundw
          case rel => exact ⟨k + 1, v2, vs2, ls2, bad2, by first | rfl | go_num, by omega, by rw [pairsAt_succ, ← List.append_assoc]; exact HA.out.snoc (by rw [HX.out, HY.out]; exact HSA.out), HSB.out, by have h1 := HSA.out.len; have h2 := HN.out; omega⟩
          case measure => simp [intOf]; omega
        · have hkL : m + 1 + k = L := by omega
          have hkk : k = zs.length - (m + 1) := by have := HL.out; omega
          have HKK := Lib.hid hkk
          have HHd := HS.out.bld.head
          have cf := cells_get HHd 2 (v := .bool false) rfl
          have i1 : (L : Int) ≤ (m : Int) + 1 + (k : Int) := by omega
          clear HHd hkk hkL
          go_wp2
          go_roundw
          case rel => exact ⟨m + 1, v', vs', ls', bad', by first | rfl | go_num, by omega, by rw [pairs_succ, ← HKK.out]; exact HA.out, HS.out, by have h1 := HN.out; omega⟩
          case measure => simp [intOf]; omega
    · have hmL : m = L := by omega
      subst hmL
      go_wp2
      go_end0
      exact ⟨rfl, v', vs', ls', bad', by rw [← HL.out]; exact HA.out, HS.out, by have h1 := HN.out; omega⟩

end Go.Proofs.Ytiomocmceccmbaa.Cn
