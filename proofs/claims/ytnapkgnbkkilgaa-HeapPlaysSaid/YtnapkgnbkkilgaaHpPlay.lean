/- HeapPlays: the heap and the law's own two rows beside it. -/
import Derived.Test.YtnapkgnbkkilgaaHpFirst
import Derived.Test.YtnapkgnbkkilgaaHpAgain
namespace Go.Proofs.Ytnapkgnbkkilgaa.Hp
open Go.RowKit Go.ChangeShapes Go.WideShapes Go.Deep Go.Joins

theorem bool_info : (Try.prog.info? 4).map (fun i => (i.zero, i.size, i.bytes)) = some (some (.bool false), 1, 1) := by kernel_rfl

theorem make_bools (n : Nat) (hn : n ≤ 65537) (x : Int) (hx : x = n) (W : World) : (Instr.makeSlice 26 (.int .i64 x) (.int .i64 x)).run Try.prog W = .ok (.slice (some ⟨W.heap.size, 0, none⟩) n n) (W.alloc (.cells (bls (List.replicate n false)).toArray 4)) := by
  subst hx
  obtain ⟨i0, hi0, hz0, hz1, hz2⟩ := info_parts bool_info
  rw [run_make (P := Try.prog) W 26 4 i0 _ Try.underlying26 hi0 hz0 .i64 .i64 n n (by omega) (by omega) (by rw [hz2]; omega) (by omega), hz1]
  have e : madeCells (Value.bool false).cells n = (bls (List.replicate n false)).toArray := by
    apply Array.ext'
    have := toList_madeCells_one (.bool false) n
    rw [show (Value.bool false).cells = #[.bool false] from rfl, this]
    simp [bls]
  simp [e]

/-- The heap in memory, with in[] in the block IB and the scores in SB. -/
structure Mems (w0 w : World) (B S P IB SB : Nat) (v : Value) (sc row pl : List Nat) (mi : List Bool) (ms : List Nat) : Prop where
  heap : Heap w w0.heap.size B S P v sc row pl
  isi : w.heap[IB]? = some (.cells (bls mi).toArray 4 (0, 0))
  iss : w.heap[SB]? = some (.cells (u64s ms).toArray 28 (0, 0))
  ne : SB ≠ S
  least : w0.heap.size ≤ IB ∧ w0.heap.size ≤ SB
  bel : Below w0.heap.size w0 w

/-- What of the two agrees with the heap's. -/
structure Agree (N : Nat) (sc row : List Nat) (mi : List Bool) (ms : List Nat) : Prop where
  li : mi.length = N
  ls : ms.length = N
  lc : sc.length = N + 1
  same : ∀ i, i < N → at' sc (i + 1) = at' ms i
  ins : ∀ i, i < N → (bat mi i = true ↔ i + 1 ∈ row)
  pos : 0 ∉ row
  few : ∀ b, at' sc b ≤ T62

theorem Mems.apart {w0 w : World} {B S P IB SB X : Nat} {v : Value} {sc row pl : List Nat} {mi : List Bool} {ms : List Nat} (h : Mems w0 w B S P IB SB v sc row pl mi ms) {cs : Array Value} {ty : TypeId} {f : Nat × Nat}
    (hx : w.heap[X]? = some (.cells cs ty f)) (h1 : ty ≠ 44) (h2 : ty ≠ 3) (h3 : X ≠ S) : ¬ (X = B ∨ X = S ∨ X = P ∨ v.ownBlock = some X) := by
  rintro (e | e | e | e)
  · subst e; rw [h.heap.1.head] at hx; injection hx with hx; injection hx with _ ht; exact h1 ht.symm
  · exact h3 e
  · subst e; rw [h.heap.1.place] at hx; injection hx with hx; injection hx with _ ht; exact h2 ht.symm
  · exact own_apart h.heap.1.own hx (Ne.symm h2) e

theorem Mems.farI {w0 w : World} {B S P IB SB : Nat} {v : Value} {sc row pl : List Nat} {mi : List Bool} {ms : List Nat} (h : Mems w0 w B S P IB SB v sc row pl mi ms) : ¬ (IB = B ∨ IB = S ∨ IB = P ∨ v.ownBlock = some IB) :=
  h.apart h.isi (by decide) (by decide) (by rintro e; have := h.isi; rw [e, h.heap.1.score] at this; injection this with hx; injection hx with _ ht; exact absurd ht (by decide))
theorem Mems.farS {w0 w : World} {B S P IB SB : Nat} {v : Value} {sc row pl : List Nat} {mi : List Bool} {ms : List Nat} (h : Mems w0 w B S P IB SB v sc row pl mi ms) : ¬ (SB = B ∨ SB = S ∨ SB = P ∨ v.ownBlock = some SB) :=
  h.apart h.iss (by decide) (by decide) h.ne
theorem Mems.diff {w0 w : World} {B S P IB SB : Nat} {v : Value} {sc row pl : List Nat} {mi : List Bool} {ms : List Nat} (h : Mems w0 w B S P IB SB v sc row pl mi ms) : IB ≠ SB := by
  rintro e; have := h.isi; rw [e, h.iss] at this; injection this with hx; injection hx with _ ht; exact absurd ht (by decide)

theorem Mems.below {w0 w w' : World} {B S P IB SB : Nat} {v : Value} {sc row pl : List Nat} {mi : List Bool} {ms : List Nat} (h : Mems w0 w B S P IB SB v sc row pl mi ms) (hb : Below w.heap.size w w') : Mems w0 w' B S P IB SB v sc row pl mi ms :=
  ⟨h.heap.below hb, heap_below h.isi hb, heap_below h.iss hb, h.ne, h.least, h.bel.trans (hb.mono h.bel.size)⟩
theorem Mems.alloc {w0 w : World} {B S P IB SB : Nat} {v : Value} {sc row pl : List Nat} {mi : List Bool} {ms : List Nat} (h : Mems w0 w B S P IB SB v sc row pl mi ms) (o : Obj) : Mems w0 (w.alloc o) B S P IB SB v sc row pl mi ms :=
  h.below ((Below.refl _ _).alloc (Nat.le_refl _) _)

/-- After a call that touches the heap alone. -/
theorem Mems.call {w0 w w' : World} {B S P IB SB : Nat} {v v' : Value} {sc row pl sc' row' pl' : List Nat} {mi : List Bool} {ms : List Nat} {F : Nat → Prop} (h : Mems w0 w B S P IB SB v sc row pl mi ms) (h' : Heap w' w0.heap.size B S P v' sc' row' pl')
    (ht : Touch w w' F) (hF : ∀ i, F i → i = B ∨ i = S ∨ i = P ∨ v.ownBlock = some i) : Mems w0 w' B S P IB SB v' sc' row' pl' mi ms :=
  ⟨h', heap_touch h.isi ht (fun e => h.farI (hF _ e)), heap_touch h.iss ht (fun e => h.farS (hF _ e)), h.ne, h.least, h.heap.still ht hF h.bel (Nat.le_refl _)⟩

theorem Mems.setI {w0 w : World} {B S P IB SB : Nat} {v : Value} {sc row pl : List Nat} {mi : List Bool} {ms : List Nat} (h : Mems w0 w B S P IB SB v sc row pl mi ms) (p : Nat) (x : Bool) : Mems w0 (w.setCell ⟨IB, p, none⟩ (.bool x)) B S P IB SB v sc row pl (mi.set p x) ms := by
  have hf := h.farI
  have ht : Touch w (w.setCell ⟨IB, p, none⟩ (.bool x)) (fun i => i = IB) := (Touch.refl _ _).set IB p _ rfl
  refine ⟨h.heap.touch ht (fun e => hf (.inl e.symm)) (fun e => hf (.inr (.inl e.symm))) (fun e => hf (.inr (.inr (.inl e.symm)))) (fun g e e2 => hf (.inr (.inr (.inr (by rw [e, e2]))))), ?_, heap_touch h.iss ht (fun e => h.diff e.symm), h.ne, h.least, Touch.belows h.bel ht (Nat.le_refl _) (fun i e => by rw [e]; exact h.least.1)⟩
  have := cells_set h.isi p (.bool x)
  simpa [bls, List.map_set] using this

theorem Mems.setS {w0 w : World} {B S P IB SB : Nat} {v : Value} {sc row pl : List Nat} {mi : List Bool} {ms : List Nat} (h : Mems w0 w B S P IB SB v sc row pl mi ms) (p x : Nat) : Mems w0 (w.setCell ⟨SB, p, none⟩ (.int .u64 (x : Int))) B S P IB SB v sc row pl mi (ms.set p x) := by
  have hf := h.farS
  have ht : Touch w (w.setCell ⟨SB, p, none⟩ (.int .u64 (x : Int))) (fun i => i = SB) := (Touch.refl _ _).set SB p _ rfl
  refine ⟨h.heap.touch ht (fun e => hf (.inl e.symm)) (fun e => hf (.inr (.inl e.symm))) (fun e => hf (.inr (.inr (.inl e.symm)))) (fun g e e2 => hf (.inr (.inr (.inr (by rw [e, e2]))))), heap_touch h.isi ht (fun e => h.diff e), ?_, h.ne, h.least, Touch.belows h.bel ht (Nat.le_refl _) (fun i e => by rw [e]; exact h.least.2)⟩
  have := cells_set h.iss p (.int .u64 (x : Int))
  simpa [u64s, List.map_set] using this

/-! What of the two agrees. -/
theorem T62_small : T62 = 4611686018427387904 := rfl

theorem Agree.perm {N : Nat} {sc row row' : List Nat} {mi : List Bool} {ms : List Nat} (h : Agree N sc row mi ms) (hp : row'.Perm row) : Agree N sc row' mi ms :=
  ⟨h.li, h.ls, h.lc, h.same, fun i hi => (h.ins i hi).trans hp.mem_iff.symm, fun hm => h.pos (hp.mem_iff.1 hm), h.few⟩

theorem Agree.halve {N : Nat} {sc sc' row row' : List Nat} {mi : List Bool} {ms ms' : List Nat} (h : Agree N sc row mi ms) (hl : sc'.length = sc.length) (hs : ∀ a, at' sc' a = at' sc a / 2) (hp : row'.Perm row)
    (ml : ms'.length = N) (hm : ∀ b, at' ms' b = at' ms b / 2) : Agree N sc' row' mi ms' :=
  ⟨h.li, ml, hl.trans h.lc, fun i hi => by rw [hs, hm, h.same i hi], fun i hi => (h.ins i hi).trans hp.mem_iff.symm, fun hm => h.pos (hp.mem_iff.1 hm), fun b => by rw [hs]; have := h.few b; omega⟩

theorem halv_fits : ∀ (n d s : Nat), d + s ≤ n → s / 2 ^ halv d s + d / 2 ^ halv d s ≤ T62 := by
  intro n
  induction n with
  | zero =>
    intro d s h
    obtain rfl : d = 0 := by omega
    obtain rfl : s = 0 := by omega
    simp
  | succ n ih =>
    intro d s h
    rw [halv]
    by_cases hc : T62 < d ∨ T62 - d < s
    · rw [dif_pos hc, Nat.pow_succ, Nat.mul_comm, ← Nat.div_div_eq_div_mul, ← Nat.div_div_eq_div_mul]
      exact ih _ _ (by rw [T62_small] at hc; omega)
    · rw [dif_neg hc]; simp; omega

theorem Agree.bump {N : Nat} {sc sc' row row' : List Nat} {mi : List Bool} {ms ms' : List Nat} (h : Agree N sc row mi ms) {a d : Nat} (ha : a < N) (hb : Bumped sc (a + 1) d sc') (hp : row'.Perm row)
    (ml : ms'.length = N) (hm : ∀ b, at' ms' b = at' ms b / 2 ^ halv d (at' ms a) + if b = a then d / 2 ^ halv d (at' ms a) else 0) : Agree N sc' row' mi ms' := by
  obtain ⟨b1, b2⟩ := hb
  rw [h.same a ha] at b2
  refine ⟨h.li, ml, b1.trans h.lc, fun i hi => ?_, fun i hi => (h.ins i hi).trans hp.mem_iff.symm, fun hm => h.pos (hp.mem_iff.1 hm), fun b => ?_⟩
  · rw [b2, hm, h.same i hi]
    by_cases e : i = a
    · rw [if_pos e, if_pos (by omega)]
    · rw [if_neg e, if_neg (by omega)]
  · rw [b2]
    by_cases e : b = a + 1
    · rw [if_pos e, e, h.same a ha]; exact halv_fits _ _ _ (Nat.le_refl _)
    · rw [if_neg e, Nat.add_zero]; exact Nat.le_trans (Nat.div_le_self _ _) (h.few b)

theorem Agree.push {N : Nat} {sc row row' : List Nat} {mi : List Bool} {ms : List Nat} (h : Agree N sc row mi ms) {a : Nat} (ha : a < N) (hp : row'.Perm (row ++ [a + 1])) : Agree N sc row' (mi.set a true) ms :=
  ⟨by simpa using h.li, h.ls, h.lc, h.same, fun i hi => by
    rw [bat_set (by rw [h.li]; exact ha), hp.mem_iff, List.mem_append, ← h.ins i hi]
    by_cases e : i = a
    · simp [e]
    · simp [e], fun hm => by have := hp.mem_iff.1 hm; simp at this; exact h.pos this, h.few⟩

theorem Agree.push_old {N : Nat} {sc row : List Nat} {mi : List Bool} {ms : List Nat} (h : Agree N sc row mi ms) {a : Nat} (ha : a < N) (hm : a + 1 ∈ row) : Agree N sc row (mi.set a true) ms :=
  ⟨by simpa using h.li, h.ls, h.lc, h.same, fun i hi => by
    rw [bat_set (by rw [h.li]; exact ha), ← h.ins i hi]
    by_cases e : i = a
    · subst e; simp; exact (h.ins i hi).2 hm
    · simp [e], h.pos, h.few⟩

theorem Agree.pop {N : Nat} {sc row row' : List Nat} {mi : List Bool} {ms : List Nat} (h : Agree N sc row mi ms) (hn : row.Nodup) {a : Nat} (ha : a < N) (hp : row.Perm ((a + 1) :: row')) : Agree N sc row' (mi.set a false) ms :=
  ⟨by simpa using h.li, h.ls, h.lc, h.same, fun i hi => by
    have hnd := hp.nodup_iff.1 hn
    rw [bat_set (by rw [h.li]; exact ha)]
    by_cases e : i = a
    · subst e; simp; exact (List.nodup_cons.1 hnd).1
    · rw [if_neg e, h.ins i hi, hp.mem_iff]; simp [e], fun hm => h.pos (hp.mem_iff.2 (List.mem_cons_of_mem _ hm)), h.few⟩

/-- The law's first one is the heap's. -/
theorem Agree.first_none {N r : Nat} {sc row : List Nat} {mi : List Bool} {ms : List Nat} (h : Agree N sc row mi ms) (hv : Valid sc row) (hf : First mi ms N r) (hr : r = 0) : row = [] := by
  rcases hf with ⟨_, h2⟩ | ⟨h1, _⟩
  · rw [List.eq_nil_iff_forall_not_mem]
    intro x hx
    have h1 := hv.1 x hx
    rw [h.lc] at h1
    obtain ⟨y, rfl⟩ : ∃ y, x = y + 1 := ⟨x - 1, by have : x ≠ 0 := fun e => h.pos (e ▸ hx); omega⟩
    have := (h.ins y (by omega)).2 hx
    rw [h2 y (by omega)] at this; cases this
  · omega

theorem Agree.first_some {N r a : Nat} {sc row : List Nat} {mi : List Bool} {ms : List Nat} (h : Agree N sc row mi ms) (hv : Valid sc row) (hf : First mi ms N r) (ha : a ∈ row) (hmin : ∀ x ∈ row, ¬ Lt sc x a) : a = r := by
  have hal := hv.1 a ha
  rw [h.lc] at hal
  obtain ⟨y, rfl⟩ : ∃ y, a = y + 1 := ⟨a - 1, by have : a ≠ 0 := fun e => h.pos (e ▸ ha); omega⟩
  have hy := (h.ins y (by omega)).2 ha
  rcases hf with ⟨_, h2⟩ | ⟨h1, h2, h3, h4⟩
  · rw [h2 y (by omega)] at hy; cases hy
  · obtain ⟨q, rfl⟩ : ∃ q, r = q + 1 := ⟨r - 1, by omega⟩
    rw [Nat.add_sub_cancel] at h3 h4
    have hq := (h.ins q (by omega)).1 h3
    have n1 := hmin _ hq
    unfold Lt at n1
    rw [h.same q (by omega), h.same y (by omega)] at n1
    rcases h4 y (by omega) hy with h5 | ⟨h5, h6⟩
    · exact absurd (Or.inl h5) n1
    · have : ¬ (q < y) := fun hl => n1 (.inr ⟨h5.symm, by omega⟩)
      omega

end Go.Proofs.Ytnapkgnbkkilgaa.Hp
