/- The chapter's example. -/
import Derived.Test.YtaahdhpljlkfjaaGreatZg44
import Derived.Test.YtaahdhpljlkfjaaGreatZg45
import Derived.Laws.StructEq
import Derived.ChangeKeysEq
import Derived.Test.YtaahdhpljlkfjaaGreatZg27
namespace Go.Proofs.YtaahdhpljlkfjaaGreat.Rc
open Go.RowKit Go.Maps

theorem RowD.of_heap {α : Type} [Inhabited α] {K : Kd α} {w : World} {X : Nat} {cs : Array Value} {T : TypeId} {l : List α} {n : Nat} (hn : n = l.length) (h : w.heap[X]? = some (.cells cs T (0, 0))) (hl : n ≤ maxLen)
    (hk : ∀ j, j < n → ∃ ds, K.is w ds (nth l j) ∧ ∀ i, i < K.n → cs[j * K.n + i]? = ds[i]?) : RowD K w (.slice (some ⟨X, 0, none⟩) n n) l := by
  subst hn
  refine ⟨_, _, rfl, Nat.le_refl _, hl, fun _ => ⟨X, 0, rfl, lt_of_heap h, fun j hj => ?_⟩⟩
  obtain ⟨ds, h1, h2⟩ := hk j hj
  refine ⟨ds, h1, fun i hi => ?_⟩
  rw [Nat.zero_add, cell_of_row w X _ _ _ _ h]
  exact h2 i hi
def pkg24 : Pkg := ⟨⟨#[97]⟩, 0, [(⟨#[49]⟩, false), (⟨#[50]⟩, false)], [], [], [], [], []⟩
def rec24 : Rec := ⟨[pkg24], []⟩
def req24 : List Root := [⟨⟨⟨#[97]⟩, [(⟨#[]⟩, ⟨#[]⟩)], []⟩, 0⟩]
def gr24 : List Node := [⟨⟨#[97]⟩, ⟨#[49]⟩, [], []⟩]
theorem cost24 : costL rec24 req24 gr24 = [0, 1, 0, 0, 0, 1] := by decide +kernel
theorem tame24 : Tame rec24 gr24 := by
  refine ⟨⟨by decide, by decide, fun p hp => ?_⟩, fun f hf => by simp [rec24] at hf, by decide, fun n hn => ?_⟩
  · simp [rec24] at hp
    subst hp
    unfold PkgSmall
    decide
  · simp [gr24] at hn
    subst hn
    decide
theorem ex24_is {w : World} {R P S Q N : Nat} (hR : w.heap[R]? = some (.cells #[.string ⟨#[49]⟩, .bool false, .string ⟨#[50]⟩, .bool false] 70 (0, 0)))
    (hP : w.heap[P]? = some (.cells #[.string ⟨#[97]⟩, .int .i64 0, .slice (some ⟨R, 0, none⟩) 2 2, .slice none 0 0, .slice none 0 0, .slice none 0 0, .slice none 0 0, .slice none 0 0] 51 (0, 0)))
    (hS : w.heap[S]? = some (.cells #[.string ⟨#[]⟩, .string ⟨#[]⟩] 72 (0, 0)))
    (hQ : w.heap[Q]? = some (.cells #[.string ⟨#[97]⟩, .slice (some ⟨S, 0, none⟩) 1 1, .slice none 0 0, .int .i64 0] 61 (0, 0)))
    (hN : w.heap[N]? = some (.cells #[.string ⟨#[97]⟩, .string ⟨#[49]⟩, .slice none 0 0, .slice none 0 0] 63 (0, 0))) :
    IsRec w (.slice (some ⟨P, 0, none⟩) 1 1) (.slice none 0 0) rec24 ∧ RowD rootK w (.slice (some ⟨Q, 0, none⟩) 1 1) req24 ∧ RowD nodeK w (.slice (some ⟨N, 0, none⟩) 1 1) gr24 := by
  have small : ∀ s : ByteArray, s.size ≤ 10 → s.size ≤ maxLen := fun s h => by unfold maxLen; omega
  have hrel : RowD relK w (.slice (some ⟨R, 0, none⟩) 2 2) pkg24.rels := RowD.of_heap rfl hR (by simp [maxLen]) fun j hj => by
    match j, hj with
    | 0, _ => exact ⟨_, ⟨rfl, small _ (by decide)⟩, fun i hi => by
        have hi' : i < 2 := hi
        match i, hi' with
        | 0, _ | 1, _ => rfl⟩
    | 1, _ => exact ⟨_, ⟨rfl, small _ (by decide)⟩, fun i hi => by
        have hi' : i < 2 := hi
        match i, hi' with
        | 0, _ | 1, _ => rfl⟩
  have hsp : RowD setK w (.slice (some ⟨S, 0, none⟩) 1 1) [((⟨#[]⟩ : ByteArray), (⟨#[]⟩ : ByteArray))] := RowD.of_heap rfl hS (by simp [maxLen]) fun j hj => by
    obtain rfl : j = 0 := by omega
    exact ⟨_, ⟨rfl, small _ (by decide), small _ (by decide)⟩, fun i hi => by rw [Nat.zero_mul, Nat.zero_add]; exact List.getElem?_toArray⟩
  refine ⟨⟨RowD.of_heap rfl hP (by simp [maxLen]) fun j hj => ?_, RowD.nil w⟩, RowD.of_heap rfl hQ (by simp [maxLen]) fun j hj => ?_, RowD.of_heap rfl hN (by simp [maxLen]) fun j hj => ?_⟩
  · obtain rfl : j = 0 := by omega
    exact ⟨_, ⟨_, _, _, _, _, _, rfl, ⟨small _ (by decide), (show (Lit.int .i64 0).wf = true by decide), hrel, RowD.nil w, RowD.nil w, RowD.nil w, RowD.nil w, RowD.nil w⟩⟩, fun i hi => by rw [Nat.zero_mul, Nat.zero_add]; exact List.getElem?_toArray⟩
  · obtain rfl : j = 0 := by omega
    exact ⟨_, ⟨_, _, rfl, ⟨small _ (by decide), hsp, RowD.nil w⟩, by decide⟩, fun i hi => by rw [Nat.zero_mul, Nat.zero_add]; exact List.getElem?_toArray⟩
  · obtain rfl : j = 0 := by omega
    exact ⟨_, ⟨_, _, rfl, ⟨small _ (by decide), small _ (by decide), RowD.nil w, RowD.nil w⟩⟩, fun i hi => by rw [Nat.zero_mul, Nat.zero_add]; exact List.getElem?_toArray⟩

set_option maxRecDepth 100000 in
theorem eq_cost (l : List Int) (w : World) : (Op.equalIn 10000 38 (.agg (costA l)) (.agg (costA l))).run Tryz.prog w = .ok true w := by
  have h3 : Tryz.prog.underlying 38 = some (.array 6 3) := by kernel_rfl
  obtain ⟨i, hi⟩ : ∃ i, Tryz.prog.info? 3 = some i := Option.isSome_iff_exists.1 (by kernel_rfl)
  have hc : Tryz.prog.cellsOf 3 = 1 := by kernel_rfl
  rw [run_equalIn_array w 9999 _ _ h3 hi, hc, show List.range 6 = [0, 1, 2, 3, 4, 5] from rfl]
  have hp : ∀ (w : World) (k : Nat), k < 6 → (part 3 (costA l) k).run Tryz.prog w = .ok (.int .i64 (nth l k)) w := fun w k hk => by
    have := costA_at l hk
    simp only [part, Sem.run_bind, Tryz.isAgg3, Result.andThen_ok, this]
    simp
  have he : ∀ (w : World) (k : Nat), (Op.equalIn 9999 3 (.int .i64 (nth l k)) (.int .i64 (nth l k))).run Tryz.prog w = .ok true w := fun w k => by
    rw [run_equalIn_int w 9998 _ _ _ _ _ Tryz.underlying3, beq_self_eq_true]
  have p0 := fun w => hp w 0 (by omega)
  have p1 := fun w => hp w 1 (by omega)
  have p2 := fun w => hp w 2 (by omega)
  have p3 := fun w => hp w 3 (by omega)
  have p4 := fun w => hp w 4 (by omega)
  have p5 := fun w => hp w 5 (by omega)
  simp [Op.eqItems, Sem.run_bind, p0, p1, p2, p3, p4, p5, he, Result.andThen_ok]
set_option maxRecDepth 100000 in
set_option maxHeartbeats 1600000 in
theorem fixed24_any (w : World) : Calls Tryz.prog 9 #[] w fun e w' => e = .returned (.bool true) ∧ Below w.heap.size w w' := by
  have HX := Lib.hid ((((((Bxs.three w #[.string ⟨#[49]⟩, .bool false, .string ⟨#[50]⟩, .bool false] 70
    #[.string ⟨#[97]⟩, .int .i64 0, .slice (some ⟨w.heap.size, 0, none⟩) 2 2, .slice none 0 0, .slice none 0 0, .slice none 0 0, .slice none 0 0, .slice none 0 0] 51
    #[.slice (some ⟨w.heap.size + 1, 0, none⟩) 1 1, .slice none 0 0] 25).push (by simp)
    #[.string ⟨#[]⟩, .string ⟨#[]⟩] 72).push (by simp)
    #[.string ⟨#[97]⟩, .slice (some ⟨w.heap.size + 3, 0, none⟩) 1 1, .slice none 0 0, .int .i64 0] 61).push (by simp)
    #[.slice (some ⟨w.heap.size + 4, 0, none⟩) 1 1] 28).push (by simp)
    #[.string ⟨#[97]⟩, .string ⟨#[49]⟩, .slice none 0 0, .slice none 0 0] 63))
  have HE := Lib.hid (ex24_is (HX.out.blk 0 _ _ rfl) (HX.out.blk 1 _ _ rfl) (HX.out.blk 3 _ _ rfl) (HX.out.blk 4 _ _ rfl) (HX.out.blk 6 _ _ rfl))
  rw [Nat.add_zero] at HE
  go_enter Tryz.func9, Tryz.ntmps9
  go_wp2_with fail
  simp only [Nat.add_assoc, Nat.reduceAdd]
  refine (of_is _ _ _ _ _ rec24 req24 gr24 HE.out.1 HE.out.2.1 HE.out.2.2 tame24 (by decide)).mono ?_
  rw [cost24]
  rintro e w2 ⟨rfl, hb⟩
  have HB := Lib.hid (HX.out.bel.trans (hb.mono HX.out.bel.size))
  clear hb HX HE
  have E := eq_cost [0, 1, 0, 0, 0, 1]
  rw [show costA [0, 1, 0, 0, 0, 1] = #[.int .i64 0, .int .i64 1, .int .i64 0, .int .i64 0, .int .i64 0, .int .i64 1] from rfl] at E
  rw [show costV [0, 1, 0, 0, 0, 1] = .agg #[.int .i64 0, .int .i64 1, .int .i64 0, .int .i64 0, .int .i64 0, .int .i64 1] from rfl]
  go_wp2
  go_ret
  exact ⟨rfl, HB.out.trans ((below_alloc' w2 _).mono HB.out.size)⟩
end Go.Proofs.YtaahdhpljlkfjaaGreat.Rc
