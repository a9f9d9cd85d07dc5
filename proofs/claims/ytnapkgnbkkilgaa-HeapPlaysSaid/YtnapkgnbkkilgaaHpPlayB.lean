/- HeapPlays: what the walk's rounds do. -/
import Derived.Test.YtnapkgnbkkilgaaHpPlay2
import Derived.Deep.DeepCutAuto
import Derived.Deep.CutBlock
import Derived.Deep.LoopGhost
namespace Go.Proofs.Ytnapkgnbkkilgaa.Hp
open Go.RowKit Go.ChangeShapes Go.WideShapes Go.Deep Go.Joins

/-- While in[] is filled. -/
def Fill (w : World) (N B S P IB SB : Nat) (v0 : Value) (k : Nat) (mi : List Bool) (t : Value) (wr : World) : Prop :=
  t = .int .i64 (k : Int) ∧ k ≤ N ∧ Mems w wr B S P IB SB v0 (List.replicate (N + 1) 0) (List.range' 1 N) (List.range (N + 1)) mi (List.replicate N 0) ∧ mi.length = N ∧ ∀ j, j < k → bat mi j = true

theorem fill_start1 {w w1 : World} {N B S P : Nat} {v0 : Value} (h : Hid (Heap w1 w.heap.size B S P v0 (List.replicate (N + 1) 0) (List.range' 1 N) (List.range (N + 1)))) (hb : Hid (Below w.heap.size w w1)) :
    Fill w N B S P w1.heap.size (w1.heap.size + 1) v0 0 (List.replicate N false) (.int .i64 0) (((w1.alloc (.cells (bls (List.replicate N false)).toArray 4)).alloc (.cells (us N) 28)).drew) := by
  have hh := h.out
  have l1 := lt_of_heap hh.1.score
  have ls := hb.out.size
  have b1 : Below w1.heap.size w1 ((w1.alloc (.cells (bls (List.replicate N false)).toArray 4)).alloc (.cells (us N) 28)).drew := (((Below.refl _ _).alloc (Nat.le_refl _) _).alloc (by simp) _).drew
  have h1 := heap_alloc_new w1 (.cells (bls (List.replicate N false)).toArray 4)
  have h2 := heap_alloc_new (w1.alloc (.cells (bls (List.replicate N false)).toArray 4)) (.cells (us N) 28)
  refine ⟨rfl, by omega, ⟨hh.below b1, heap_below h1 (((Below.refl _ _).alloc (Nat.le_refl _) _).drew), ?_, by omega, ⟨ls, by omega⟩, hb.out.trans (b1.mono ls)⟩, by simp, by omega⟩
  rw [show (w1.alloc (.cells (bls (List.replicate N false)).toArray 4)).heap.size = w1.heap.size + 1 by simp] at h2
  exact h2

theorem fill_start2 {w w1 : World} {N B S P : Nat} {v0 : Value} (h : Hid (Heap w1 w.heap.size B S P v0 (List.replicate (N + 1) 0) (List.range' 1 N) (List.range (N + 1)))) (hb : Hid (Below w.heap.size w w1)) :
    Fill w N B S P (w1.heap.size + 1) w1.heap.size v0 0 (List.replicate N false) (.int .i64 0) (((w1.alloc (.cells (us N) 28)).alloc (.cells (bls (List.replicate N false)).toArray 4)).drew) := by
  have hh := h.out
  have l1 := lt_of_heap hh.1.score
  have ls := hb.out.size
  have b1 : Below w1.heap.size w1 ((w1.alloc (.cells (us N) 28)).alloc (.cells (bls (List.replicate N false)).toArray 4)).drew := (((Below.refl _ _).alloc (Nat.le_refl _) _).alloc (by simp) _).drew
  have h1 := heap_alloc_new w1 (.cells (us N) 28)
  have h2 := heap_alloc_new (w1.alloc (.cells (us N) 28)) (.cells (bls (List.replicate N false)).toArray 4)
  refine ⟨rfl, by omega, ⟨hh.below b1, ?_, heap_below h1 (((Below.refl _ _).alloc (Nat.le_refl _) _).drew), by omega, ⟨by omega, ls⟩, hb.out.trans (b1.mono ls)⟩, by simp, by omega⟩
  rw [show (w1.alloc (.cells (us N) 28)).heap.size = w1.heap.size + 1 by simp] at h2
  exact h2

theorem Fill.step {w wr : World} {N B S P IB SB k : Nat} {v0 : Value} {mi : List Bool} {t : Value} (h : Fill w N B S P IB SB v0 k mi t wr) (hk : k < N) :
    Fill w N B S P IB SB v0 (k + 1) (mi.set k true) (.int .i64 ((k + 1 : Nat) : Int)) (wr.setCell ⟨IB, k, none⟩ (.bool true)) := by
  obtain ⟨_, _, h1, h2, h3⟩ := h
  refine ⟨rfl, hk, h1.setI k true, by simpa using h2, fun j hj => ?_⟩
  rw [bat_set (by omega)]
  by_cases e : j = k
  · rw [if_pos e]
  · rw [if_neg e]; exact h3 j (by omega)

theorem Fill.done {w wr : World} {N B S P IB SB : Nat} {v0 : Value} {mi : List Bool} {t : Value} (h : Fill w N B S P IB SB v0 N mi t wr) : Agree N (List.replicate (N + 1) 0) (List.range' 1 N) mi (List.replicate N 0) := by
  obtain ⟨_, _, h1, h2, h3⟩ := h
  refine ⟨h2, by simp, by simp, fun i hi => ?_, fun i hi => ?_, by simp, fun b => ?_⟩
  · unfold at'; simp [List.getD_eq_getElem?_getD, hi]
  · rw [h3 i hi]; simp; omega
  · unfold at'; simp [List.getD_eq_getElem?_getD, List.getElem?_replicate]; split <;> simp

/-- The box of the round's operation. -/
def Bx (w : World) (X : Nat) (kd a : Int) (d : Nat) : Prop := w.heap[X]? = some (.cells #[.int .i64 kd, .int .i64 a, .int .u64 (d : Int)] 30 (0, 0))

theorem Bx.ne {w : World} {X Y : Nat} {kd a : Int} {d : Nat} {cs : Array Value} {ty : TypeId} {f : Nat × Nat} (h : Bx w X kd a d) (hy : w.heap[Y]? = some (.cells cs ty f)) (hne : ty ≠ 30) : X ≠ Y := by
  rintro rfl; unfold Bx at h; rw [h] at hy; injection hy with hx; injection hx with _ ht; exact hne ht.symm

theorem Mems.box {w0 w w' : World} {B S P IB SB X : Nat} {v : Value} {sc row pl : List Nat} {mi : List Bool} {ms : List Nat} {F : Nat → Prop} {kd a : Int} {d : Nat} (h : Mems w0 w B S P IB SB v sc row pl mi ms) (hb : Bx w X kd a d)
    (ht : Touch w w' F) (hF : ∀ i, F i → i = B ∨ i = S ∨ i = P ∨ v.ownBlock = some i) : Bx w' X kd a d :=
  heap_touch hb ht (fun e => h.apart hb (by decide) (by decide) (hb.ne h.heap.1.score (by decide)) (hF _ e))

theorem foot_in {B S P : Nat} {v : Value} : ∀ i, Foot S P v i → i = B ∨ i = S ∨ i = P ∨ v.ownBlock = some i := fun _ h => .inr h

/-- The law's own scores while they are halved. -/
def ModH (w : World) (N B S P IB SB X : Nat) (v : Value) (sc row pl : List Nat) (mi : List Bool) (ms : List Nat) (kd a : Int) (d : Nat) (t : Value) (wr : World) : Prop :=
  ∃ (k : Nat) (ms' : List Nat), t = .int .i64 (k : Int) ∧ k ≤ N ∧ Mems w wr B S P IB SB v sc row pl mi ms' ∧ Bx wr X kd a d ∧ ms'.length = N ∧ ∀ b, at' ms' b = if b < k then at' ms b / 2 else at' ms b

theorem modH_start {w wr : World} {N B S P IB SB X : Nat} {v : Value} {sc row pl : List Nat} {mi : List Bool} {ms : List Nat} {kd a : Int} {d : Nat} (h : Mems w wr B S P IB SB v sc row pl mi ms) (hb : Bx wr X kd a d) (hl : ms.length = N) :
    ModH w N B S P IB SB X v sc row pl mi ms kd a d (.int .i64 0) wr := ⟨0, ms, rfl, by omega, h, hb, hl, fun b => by rw [if_neg (by omega)]⟩

theorem modH_step {w wr : World} {N B S P IB SB X k s : Nat} {v : Value} {sc row pl : List Nat} {mi : List Bool} {ms ms' : List Nat} {kd a : Int} {d : Nat} (h : Mems w wr B S P IB SB v sc row pl mi ms') (hb : Bx wr X kd a d) (hl : ms'.length = N) (hk : k < N)
    (hm : ∀ b, at' ms' b = if b < k then at' ms b / 2 else at' ms b) (hs : at' ms' k = s) :
    ModH w N B S P IB SB X v sc row pl mi ms kd a d (.int .i64 ((k + 1 : Nat) : Int)) (wr.setCell ⟨SB, k, none⟩ (.int .u64 ((s / 2 : Nat) : Int))) := by
  refine ⟨k + 1, ms'.set k (s / 2), rfl, hk, h.setS k (s / 2), heap_set_far hb (hb.ne h.iss (by decide)), by simpa using hl, fun b => ?_⟩
  have e2 : s = at' ms k := by rw [← hs, hm, if_neg (by omega)]
  rw [at_set (by omega), hm, e2]
  by_cases e : b = k
  · subst e; rw [if_pos rfl, if_pos (by omega)]
  · rw [if_neg e]
    by_cases e3 : b < k
    · rw [if_pos e3, if_pos (by omega)]
    · rw [if_neg e3, if_neg (by omega)]

theorem modH_all {N : Nat} {ms ms' : List Nat} (hl : ms'.length = N) (hm : ∀ b, at' ms' b = if b < N then at' ms b / 2 else at' ms b) : ∀ b, at' ms' b = at' ms b / 2 := fun b => by
  by_cases e : b < N
  · rw [hm, if_pos e]
  · have h0 : at' ms' b = 0 := by unfold at'; simp [List.getD_eq_getElem?_getD, List.getElem?_eq_none (by omega : ms'.length ≤ b)]
    have h1 := hm b
    rw [if_neg e, h0] at h1
    rw [h0, ← h1]

/-- The law's own scores while a bump halves them. -/
def ModW (w : World) (N B S P IB SB X : Nat) (v : Value) (sc row pl : List Nat) (mi : List Bool) (ms : List Nat) (kd a : Int) (d q : Nat) (t : Value) (wr : World) : Prop :=
  ∃ (j : Nat) (ms' : List Nat), t = .int .u64 ((d / 2 ^ j : Nat) : Int) ∧ Mems w wr B S P IB SB v sc row pl mi ms' ∧ Bx wr X kd a d ∧ ms'.length = N ∧ (∀ b, at' ms' b = at' ms b / 2 ^ j) ∧ j + halv (d / 2 ^ j) (at' ms q / 2 ^ j) = halv d (at' ms q)

theorem modW_done {N q d j dj sj : Nat} {ms ms' : List Nat} (hq : q < N) (hl : ms'.length = N) (hm : ∀ b, at' ms' b = at' ms b / 2 ^ j) (hj : j + halv (d / 2 ^ j) (at' ms q / 2 ^ j) = halv d (at' ms q))
    (hd : d / 2 ^ j = dj) (hs : at' ms q / 2 ^ j = sj) (hc : ¬ (T62 < dj ∨ T62 - dj < sj)) :
    ∀ b, at' (ms'.set q (sj + dj)) b = at' ms b / 2 ^ halv d (at' ms q) + if b = q then d / 2 ^ halv d (at' ms q) else 0 := fun b => by
  rw [hd, hs, halv_no hc, Nat.add_zero] at hj
  rw [← hj, at_set (by omega), hm]
  by_cases e : b = q
  · subst e; rw [if_pos rfl, if_pos rfl, hs, hd]
  · rw [if_neg e, if_neg e]; rfl

theorem modW_next {d q j dj sj : Nat} {ms ms' ms'' : List Nat} (hm : ∀ b, at' ms' b = at' ms b / 2 ^ j) (hm2 : ∀ b, at' ms'' b = at' ms' b / 2) (hj : j + halv (d / 2 ^ j) (at' ms q / 2 ^ j) = halv d (at' ms q))
    (hd : d / 2 ^ j = dj) (hs : at' ms q / 2 ^ j = sj) (hc : T62 < dj ∨ T62 - dj < sj) :
    d / 2 ^ (j + 1) = dj / 2 ∧ (∀ b, at' ms'' b = at' ms b / 2 ^ (j + 1)) ∧ j + 1 + halv (d / 2 ^ (j + 1)) (at' ms q / 2 ^ (j + 1)) = halv d (at' ms q) := by
  refine ⟨by rw [← pow_step, hd], fun b => by rw [hm2, hm, pow_step], ?_⟩
  rw [hd, hs, halv_yes hc] at hj
  rw [← pow_step, ← pow_step, hd, hs, ← hj]; omega

theorem Agree.first_pos {N r : Nat} {sc row : List Nat} {mi : List Bool} {ms : List Nat} (h : Agree N sc row mi ms) (hf : First mi ms N r) (hr : r ≠ 0) : 1 ≤ row.length ∧ r ≤ N := by
  rcases hf with ⟨h1, _⟩ | ⟨h1, h2, h3, _⟩
  · exact absurd h1 hr
  · have := (h.ins (r - 1) (by omega)).1 h3
    exact ⟨List.length_pos_of_mem this, h2⟩

theorem has_at {w : World} {base B S P N i : Nat} {v : Value} {sc row pl : List Nat} {mi : List Bool} {ms : List Nat} (h : Heap w base B S P v sc row pl) (hA : Agree N sc row mi ms) (hi : i < N) (x : Int) (hx : x = (i : Int) + 1) (r : Bool) (hr : bat mi i = r) :
    Calls Try.prog 14 #[.pointer (some ⟨B, 0, none⟩), .int .i64 x] w fun e w' => e = .returned (.bool r) ∧ w = w' := by
  have hx' : x = ((i + 1 : Nat) : Int) := by omega
  subst hx'
  have hl : i + 1 < pl.length := by rw [h.2.pla.1, hA.lc]; omega
  refine has_yes w base B S P v sc row pl h.1 (i + 1) (at' pl (i + 1)) (at_get hl) (by omega) r ?_
  rw [← hr]
  rcases Classical.em (i + 1 ∈ row) with hm | hm
  · rw [(hA.ins i hi).2 hm]
    obtain ⟨p, hp, e⟩ := mem_at hm
    have := h.2.pla.2.1 p hp
    rw [e] at this; rw [this]; simp
  · have h0 := h.2.pla.2.2 (i + 1) (by rw [hA.lc]; omega) hm
    have hb : bat mi i = false := by
      cases hc : bat mi i with
      | false => rfl
      | true => exact absurd ((hA.ins i hi).1 hc) hm
    rw [h0, hb]; simp

theorem score_at {w : World} {base B S P N i : Nat} {v : Value} {sc row pl : List Nat} {mi : List Bool} {ms : List Nat} (h : Heap w base B S P v sc row pl) (hA : Agree N sc row mi ms) (hi : i < N) (x : Int) (hx : x = (i : Int) + 1) (s : Nat) (hs : at' ms i = s) :
    Calls Try.prog 15 #[.pointer (some ⟨B, 0, none⟩), .int .i64 x] w fun e w' => e = .returned (.int .u64 (s : Int)) ∧ w = w' :=
  score_in w base B S P v sc row pl h.1 (i + 1) x (by omega) (by omega) (by rw [hA.lc]; omega) s (by rw [hA.same i hi, hs])

def cnt (mi : List Bool) (i : Nat) : Nat := ((List.range' 1 i).filter (fun x => bat mi (x - 1))).length
theorem cnt_succ (mi : List Bool) (i : Nat) : cnt mi (i + 1) = cnt mi i + if bat mi i = true then 1 else 0 := by
  unfold cnt
  rw [range_snoc, List.filter_append, List.length_append]
  cases h : bat mi i <;> simp [h]
theorem cnt_le (mi : List Bool) (i : Nat) : cnt mi i ≤ i := by
  unfold cnt
  exact Nat.le_trans (List.length_filter_le _ _) (by simp)

theorem Agree.count {N : Nat} {sc row : List Nat} {mi : List Bool} {ms : List Nat} (h : Agree N sc row mi ms) (hv : Valid sc row) : row.length = cnt mi N := by
  have hp : row.Perm ((List.range' 1 N).filter (fun x => bat mi (x - 1))) := by
    rw [List.perm_ext_iff_of_nodup hv.2 (List.Pairwise.filter _ List.nodup_range')]
    intro x
    rw [List.mem_filter, List.mem_range'_1]
    constructor
    · intro hx
      have h1 := hv.1 x hx
      rw [h.lc] at h1
      have h0 : x ≠ 0 := fun e => h.pos (e ▸ hx)
      exact ⟨by omega, (h.ins (x - 1) (by omega)).2 (by rw [Nat.sub_add_cancel (by omega)]; exact hx)⟩
    · rintro ⟨h1, h2⟩
      have := (h.ins (x - 1) (by omega)).1 h2
      rwa [Nat.sub_add_cancel (by omega)] at this
  exact hp.length_eq

theorem Below.drawn {w : World} {m : Nat} : Below w.heap.size w (w.drewN m) := ⟨rfl, rfl, rfl, Nat.le_refl _, fun _ _ => rfl⟩

end Go.Proofs.Ytnapkgnbkkilgaa.Hp
