/- The walks of a table of atoms. -/
import Derived.Test.YtiimhndiifojnaaAtMath
namespace Go.Proofs.Ytiimhndiifojnaa.At
open Go.RowKit Go.Maps

/-- A table in the block B, its map in the block M: its atoms are l. -/
def Tb (w : World) (base B M : Nat) (lim : Int) (full : Bool) (v : Value) (l : List Atom) : Prop :=
  w.heap[B]? = some (.cells #[.int .i64 lim, .map (some M), v, .int .i64 0, .bool full] 42 (0, 0)) ∧
  (∃ D : DataW Unit, w.ownsMap Try.prog 47 (plainElem Try.prog 3) M l.length D ∧ IsMap D ∧
    ∀ x kl, keyOf Try.prog 47 (Atom.val x) = some kl → D.atKey kl (.lit (.int .i64 0)) = .lit (.int .i64 (place l x))) ∧
  w.ownsRow base 47 4 v l.length (l.flatMap Atom.cells)

theorem Tb.below {w w' : World} {base B M : Nat} {lim : Int} {full : Bool} {v : Value} {l : List Atom} (h : Tb w base B M lim full v l) (hb : Below w.heap.size w w') : Tb w' base B M lim full v l := by
  obtain ⟨h1, ⟨D, h2, h3, h4⟩, h5⟩ := h
  exact ⟨heap_below h1 hb, ⟨D, h2.kept (grown_none hb) (by simp), h3, h4⟩, own_touch h5 (Touch.of_below (S := fun _ => False) hb) (fun _ _ h => h)⟩

theorem zero_int (w : World) : (zeroValue 3).run Try.prog w = .ok (.int .i64 0) w := by kernel_rfl

theorem Tb.look {w : World} {base B M : Nat} {lim : Int} {full : Bool} {v : Value} {l : List Atom} (h : Tb w base B M lim full v l) (x : Atom) (hx : x.wf) :
    (Instr.lookup 39 (.map (some M)) x.val false).run Try.prog w = .ok (.int .i64 (place l x)) w := by
  obtain ⟨_, ⟨D, h2, _, h4⟩, _⟩ := h
  obtain ⟨kl, hk⟩ := key_of x hx
  obtain ⟨c, hrun, hat, _⟩ := h2.lookup_int law Try.underlying39 Try.underlying3 (zero_int w) hk
  rw [h4 x kl hk] at hat
  injection hat with hat
  injection hat with _ hat
  rw [hrun, ← hat]

set_option maxHeartbeats 400000 in
theorem look_is (w : World) (base B M : Nat) (lim : Int) (full : Bool) (v : Value) (l : List Atom) (h : Tb w base B M lim full v l) (k a b c : Int) (hx : (Atom.mk k a b c).wf) (n : Int) (hn : (place l ⟨k, a, b, c⟩ : Int) = n) :
    Calls Try.prog 17 #[.pointer (some ⟨B, 0, none⟩), .agg #[.int .u8 k, .int .i64 a, .int .i64 b, .int .i64 c]] w fun e w' => e = .returned (.int .i64 n) ∧ Below w.heap.size w w' := by
  subst hn
  have c1 := cells_get h.1 1 (v := .map (some M)) rfl
  have lB := lt_of_heap h.1
  have hr : ∀ j, (Instr.lookup 39 (.map (some M)) (.agg #[.int .u8 k, .int .i64 a, .int .i64 b, .int .i64 c]) false).run Try.prog ((w.alloc (.cells #[.int .u8 k, .int .i64 a, .int .i64 b, .int .i64 c] 47)).drewN j) = .ok (.int .i64 (place l ⟨k, a, b, c⟩)) ((w.alloc (.cells #[.int .u8 k, .int .i64 a, .int .i64 b, .int .i64 c] 47)).drewN j) :=
    fun j => (h.below (below_draws ((Below.refl _ _).alloc (Nat.le_refl _) _) j)).look ⟨k, a, b, c⟩ hx
  clear h
  go_enter Try.func17, Try.ntmps17
  go_wp2
  go_quiet (fail)
  go_wp2
  go_ret
  exact ⟨rfl, below_draws ((Below.refl _ _).alloc (Nat.le_refl _) _) _⟩


set_option maxHeartbeats 400000 in
theorem look_nil (w : World) (k a b c : Int) :
    Calls Try.prog 17 #[.pointer none, .agg #[.int .u8 k, .int .i64 a, .int .i64 b, .int .i64 c]] w fun e w' => e = .returned (.int .i64 0) ∧ Below w.heap.size w w' := by
  go_enter Try.func17, Try.ntmps17
  go_wp2
  go_ret
  exact ⟨rfl, (Below.refl _ _).alloc (Nat.le_refl _) _⟩



set_option maxHeartbeats 400000 in
theorem help_nil (w : World) :
    Calls Try.prog 12 #[.pointer none] w fun e w' => e = .returned (.int .i64 0) ∧ w = w' := by
  go_enter Try.func12, Try.ntmps12
  go_wp2
  go_ret
  exact ⟨rfl, rfl⟩

set_option maxHeartbeats 400000 in
theorem number_nil (w : World) (k a b c : Int) :
    Calls Try.prog 19 #[.pointer none, .agg #[.int .u8 k, .int .i64 a, .int .i64 b, .int .i64 c]] w fun e w' => e = .returned (.int .i64 0) ∧ Below w.heap.size w w' := by
  go_enter Try.func19, Try.ntmps19
  go_wp2_with (go_at_call 17; refine (look_nil _ _ _ _ _).mono ?_; rintro e w1 ⟨rfl, hb⟩)
  go_ret
  exact ⟨rfl, ((Below.refl _ _).alloc (Nat.le_refl _) _).trans (hb.mono (by simp))⟩

theorem tb_made (w : World) (lim : Int) (D : Obj) (hD : D = .cells #[.int .i64 lim, .map (some w.heap.size), .slice none 0 0, .int .i64 0, .bool false] 42 (0, 0)) :
    Tb ((w.alloc (.map #[] 0)).alloc D) w.heap.size (w.heap.size + 1) w.heap.size lim false (.slice none 0 0) [] := by
  subst hD
  refine ⟨?_, ⟨.map [], (World.ownsMap_made w _ _ _).alloc _, ⟨[], rfl⟩, fun x kl _ => rfl⟩, World.ownsRow_nil _ _ _ _⟩
  have := heap_alloc_new (w.alloc (.map #[] 0)) (.cells #[.int .i64 lim, .map (some w.heap.size), .slice none 0 0, .int .i64 0, .bool false] 42 (0, 0))
  simpa using this

set_option maxHeartbeats 400000 in
theorem new_is (w : World) (lim : Int) (h0 : 0 ≤ lim) (h1 : lim ≤ 65536) :
    Calls Try.prog 10 #[.int .i64 lim] w fun e w' => e = .returned (.pointer (some ⟨w.heap.size + 1, 0, none⟩)) ∧ Tb w' w.heap.size (w.heap.size + 1) w.heap.size lim false (.slice none 0 0) [] ∧ Below w.heap.size w w' := by
  have hmm := @run_makeMap Try.prog
  go_enter Try.func10, Try.ntmps10
  go_wp2
  all_goals
    go_ret
    exact ⟨rfl, tb_made w _ _ rfl, ((Below.refl _ _).alloc (Nat.le_refl _) _).alloc (by simp) _⟩

set_option maxHeartbeats 400000 in
theorem number_old (w : World) (base B M : Nat) (lim : Int) (full : Bool) (v : Value) (l : List Atom) (h : Tb w base B M lim full v l) (k a b c : Int) (hx : (Atom.mk k a b c).wf) (n : Int) (hn : (place l ⟨k, a, b, c⟩ : Int) = n) (h0 : 1 ≤ n) :
    Calls Try.prog 19 #[.pointer (some ⟨B, 0, none⟩), .agg #[.int .u8 k, .int .i64 a, .int .i64 b, .int .i64 c]] w fun e w' => e = .returned (.int .i64 n) ∧ Below w.heap.size w w' := by
  have H := Lib.hid h
  have HN := Lib.hid hn
  have e1 : (n == 0) = false := by simp; omega
  have e2 : (n != 0) = true := by simp; omega
  clear h hn
  go_enter Try.func19, Try.ntmps19
  go_wp2_with (go_at_call 17; refine (look_is _ base B M lim full v l (H.out.below ((Below.refl _ _).alloc (Nat.le_refl _) _)) k a b c hx n HN.out).mono ?_; rintro e w1 ⟨rfl, hb⟩)
  go_ret
  exact ⟨rfl, ((Below.refl _ _).alloc (Nat.le_refl _) _).trans (hb.mono (by simp))⟩


theorem atom_info : (Try.prog.info? 47).map (fun i => (i.zero, i.size, i.bytes)) = some (some (.agg #[.int .u8 0, .int .i64 0, .int .i64 0, .int .i64 0]), 4, 32) := by kernel_rfl

theorem heap_ad {w : World} {B : Nat} {o : Obj} (h : w.heap[B]? = some o) (o' : Obj) : (w.alloc o').drew.heap[B]? = some o := (heap_below h ((Below.refl _ _).alloc (Nat.le_refl _) o') : (w.alloc o').heap[B]? = some o)

/-- An atom is appended to a row of the call's own, in a region that draws. -/
theorem app_step {ops : Array Oper} {o : Oper} {a : Act} {K : Act → World → Prop} {Q : Exit → Act → World → Prop} {E : Prop} {W : World} {base n blk cp : Nat} {A : Option Addr} {xs : List Value} (x : Atom) (s y : Operand)
    (hgd : o.guard = none) (ho : o.op = .call { callee := .builtin .append, args := #[s, y], argTypes := #[40, 40] })
    (hs : a.eval s = .slice A n cp) (hown : W.ownsRow base 47 4 (.slice A n cp) n xs) (hx : a.eval y = .slice (some ⟨blk, 0, none⟩) 1 1)
    (hn : W.heap[blk]? = some (.cells #[.int .u8 x.k, .int .i64 x.a, .int .i64 x.b, .int .i64 x.c] 47 (0, 0))) (hsz : n ≤ 65536) (hbase : base ≤ W.heap.size)
    (h : ∀ g cap w', w'.ownsRow base 47 4 (.slice (some ⟨g, 0, none⟩) (n + 1) cap) (n + 1) (xs ++ x.cells) → W.grownBy w' (Value.slice A n cp).ownBlock → ((Value.slice A n cp).ownBlock = some g ∨ g = W.heap.size) → g < w'.heap.size → K (a.put o.dst (.slice (some ⟨g, 0, none⟩) (n + 1) cap)) w') :
    if Region.wanted o (yielded ops a.tmps) = true then Oper.wp Try.prog o a W K Q else E := by
  obtain ⟨i0, hi0, hz0, hz1, hz2⟩ := info_parts atom_info
  exact step_append_lies W hgd s y 40 ho base 47 i0 _ 4 32 Try.underlying40 hi0 hz0 hz1 hz2 rfl (by omega) _ n xs hs hown ⟨blk, 0, none⟩ 1 1 x.cells hx rfl
    (World.news_of_block (cs := #[.int .u8 x.k, .int .i64 x.a, .int .i64 x.b, .int .i64 x.c]) hn) (by simp [Value.oneCell', Atom.cells]) (by omega) (by unfold maxLen; omega) (by omega) hbase _ rfl h

theorem heap_d {w : World} {B : Nat} {o : Obj} (h : w.heap[B]? = some o) : w.drew.heap[B]? = some o := h
theorem map_ne {w : World} {B M n : Nat} {K : TypeId} {f : Value → Option (DataW Unit × List MemPlace)} {D : DataW Unit} {cs : Array Value} {T : TypeId} {z : Nat × Nat} (h : w.heap[B]? = some (.cells cs T z)) (hm : w.ownsMap Try.prog K f M n D) : B ≠ M := by
  rintro rfl
  obtain ⟨es, cl, hb, _⟩ := hm
  rw [h] at hb
  injection hb with hb
  cases hb

/-- Behind the append and the store of the row. -/
theorem Tb.mid {w2 w3 w4 : World} {X : Obj} {base B M bx n' cp : Nat} {A : Option Addr} {lim : Int} {full : Bool} {v' : Value} {l : List Atom} {xs : Array Value} {ys : List Value} (h : Tb w2 base B M lim full (.slice A l.length cp) l)
    (hx : w2.heap[bx]? = some (.cells xs 47 (0, 0))) (hnb : (Value.slice A l.length cp).ownBlock ≠ some bx) (hg : (w2.alloc X).drew.grownBy w3 (Value.slice A l.length cp).ownBlock)
    (ho : w3.ownsRow base 47 4 v' n' ys) (hw : w3.setCell ⟨B, 2, none⟩ v' = w4) :
    w4.heap[B]? = some (.cells #[.int .i64 lim, .map (some M), v', .int .i64 0, .bool full] 42 (0, 0)) ∧ w4.heap[bx]? = some (.cells xs 47 (0, 0)) ∧
    (∃ D : DataW Unit, w4.ownsMap Try.prog 47 (plainElem Try.prog 3) M l.length D ∧ IsMap D ∧
      ∀ x kl, keyOf Try.prog 47 (Atom.val x) = some kl → D.atKey kl (.lit (.int .i64 0)) = .lit (.int .i64 (place l x))) ∧
    w4.ownsRow base 47 4 v' n' ys ∧ Touch w2 w4 (fun i => i = B ∨ (Value.slice A l.length cp).ownBlock = some i) := by
  subst hw
  obtain ⟨h1, ⟨D, h2, h3, h4⟩, h5⟩ := h
  have hap := own_apart h5 h1 (by decide)
  have hB3 := heap_grown (heap_ad h1 X) hg (Ne.symm hap)
  have hX3 := heap_grown (heap_ad hx X) hg (Ne.symm hnb)
  have hapm : (Value.slice A l.length cp).ownBlock ≠ some M := by
    obtain ⟨es, cl, hb, _⟩ := h2
    exact own_apart_map h5 hb
  have hBM : M ≠ B := by
    rintro rfl
    obtain ⟨es, cl, hb, _⟩ := h2
    rw [h1] at hb
    injection hb with hb
    cases hb
  have hXB : bx ≠ B := by
    rintro rfl
    rw [h1] at hx
    injection hx with hx
    injection hx with _ ht
    exact absurd ht (by decide)
  have hap3 := own_apart ho hB3 (by decide)
  refine ⟨cells_set hB3 2 v', heap_set_far hX3 hXB, ⟨D, (((h2.alloc X).drew).kept hg (Ne.symm hapm)).kept (grown_set _ _ _ _) (by simpa using hBM), h3, h4⟩,
    own_touch ho (Touch.of_grown (S := fun i => i = B) (grown_set _ _ _ _) (fun i e => by cases e; rfl)) (fun g e e2 => hap3 (e2 ▸ e)), ?_⟩
  have t1 : Touch w2 (w2.alloc X).drew (fun i => i = B ∨ (Value.slice A l.length cp).ownBlock = some i) := ((Touch.refl w2 _).alloc X).drew
  have t2 := t1.trans (Touch.of_grown hg (S := fun i => i = B ∨ (Value.slice A l.length cp).ownBlock = some i) (fun i e => .inr e)) (fun _ _ h => h)
  exact t2.set B 2 v' (.inl rfl)

/-- What the table says behind the store of the number. -/
theorem place_put {l : List Atom} {x : Atom} {kl : Lit} {D : DataW Unit} (hk : keyOf Try.prog 47 (Atom.val x) = some kl) (h0 : place l x = 0) (hD : IsMap D)
    (h : ∀ x kl, keyOf Try.prog 47 (Atom.val x) = some kl → D.atKey kl (.lit (.int .i64 0)) = .lit (.int .i64 (place l x))) :
    ∀ y ky, keyOf Try.prog 47 (Atom.val y) = some ky → (D.put kl (.lit (.int .i64 (l.length + 1)))).atKey ky (.lit (.int .i64 0)) = .lit (.int .i64 (place (l ++ [x]) y)) := by
  intro y ky hy
  by_cases e : ky = kl
  · subst e
    have : y = x := val_inj (law.inj hy hk)
    subst this
    rw [atKey_put_same hD (law.key hk), place_snoc, if_neg (by simp [h0]), if_pos rfl]
    simp
  · have hne : x ≠ y := by rintro rfl; rw [hk] at hy; exact e (Option.some.inj hy).symm
    rw [atKey_put_other e, h y ky hy, place_snoc]
    by_cases h2 : place l y = 0 <;> simp [h2, hne]

set_option maxRecDepth 100000 in
set_option maxHeartbeats 1600000 in
theorem number_new (w : World) (base B M : Nat) (lim : Int) (full : Bool) (v : Value) (l : List Atom) (h : Tb w base B M lim full v l) (k a b c : Int) (hx : (Atom.mk k a b c).wf) (h0 : place l ⟨k, a, b, c⟩ = 0)
    (hl : (l.length : Int) < lim) (hl2 : lim ≤ 65536) (hbase : base ≤ w.heap.size) :
    Calls Try.prog 19 #[.pointer (some ⟨B, 0, none⟩), .agg #[.int .u8 k, .int .i64 a, .int .i64 b, .int .i64 c]] w fun e w' => e = .returned (.int .i64 (l.length + 1)) ∧
      ∃ v', Tb w' base B M lim full v' (l ++ [⟨k, a, b, c⟩]) ∧ Touch w w' (fun i => i = B ∨ i = M ∨ v.ownBlock = some i) ∧ (v'.ownBlock = v.ownBlock ∨ ∃ g, v'.ownBlock = some g ∧ w.heap.size ≤ g) := by
  obtain ⟨A, cp, rfl⟩ : ∃ A c, v = .slice A l.length c := by
    rcases own_len h.2.2 with ⟨e, h0⟩ | ⟨g, cap, e⟩
    · exact ⟨none, 0, by rw [e, h0]⟩
    · exact ⟨_, _, e⟩
  obtain ⟨i0, hi0, hz0, hz1, hz2⟩ := info_parts atom_info
  have H := Lib.hid h
  have HN := Lib.hid h0
  clear h h0
  go_enter Try.func19, Try.ntmps19
  go_wp2_with fail
  refine (look_is _ base B M lim full _ l (H.out.below ((Below.refl _ _).alloc (Nat.le_refl _) _)) k a b c hx 0 (by rw [HN.out]; rfl)).mono ?_
  rintro e w1 ⟨rfl, hb⟩
  have hb1 := ((Below.refl w.heap.size w).alloc (Nat.le_refl _) (.cells #[.int .u8 k, .int .i64 a, .int .i64 b, .int .i64 c] 47)).trans (hb.mono (by simp))
  have hbox := heap_below (heap_alloc_new w (.cells #[.int .u8 k, .int .i64 a, .int .i64 b, .int .i64 c] 47)) hb
  have x0 := cells_get hbox 0 (v := .int .u8 k) rfl
  have x1 := cells_get hbox 1 (v := .int .i64 a) rfl
  have x2 := cells_get hbox 2 (v := .int .i64 b) rfl
  have x3 := cells_get hbox 3 (v := .int .i64 c) rfl
  have lx := lt_of_heap hbox
  have h1 := H.out.below hb1
  have c0 := cells_get h1.1 0 (v := .int .i64 lim) rfl
  have c1 := cells_get h1.1 1 (v := .map (some M)) rfl
  have c2 := cells_get h1.1 2 (v := .slice A l.length cp) rfl
  have f2 := cells_free h1.1 2
  have lB := lt_of_heap h1.1
  have H1 := Lib.hid h1
  have HX := Lib.hid hbox
  clear hb h1 hbox
  go_wp2_with fail
  go_quiet (fail)
  have h2 : Tb (w1.drewN nq) base B M lim full (.slice A l.length cp) l := H1.out.below (below_draws (Below.refl _ _) nq)
  have hx2 : (w1.drewN nq).heap[w.heap.size]? = some (.cells #[.int .u8 k, .int .i64 a, .int .i64 b, .int .i64 c] 47 (0, 0)) := HX.out
  have hb2 := below_draws hb1 nq
  clear H1 HX hb1 x0 x1 x2 x3 lx c0 c1 c2 f2 lB
  generalize w1.drewN nq = w2 at *
  have hlt2 : w.heap.size < w2.heap.size := lt_of_heap hx2
  have hap := own_apart h2.2.2 h2.1 (by decide)
  have hap2 : (Value.slice A l.length cp).ownBlock ≠ some w.heap.size := fun e => by have := (H.out.2.2.lt _ e).2; omega
  have HB3 := Lib.hid (heap_ad h2.1 (.cells #[.int .u8 k, .int .i64 a, .int .i64 b, .int .i64 c] 47))
  have HX3 := Lib.hid (heap_ad hx2 (.cells #[.int .u8 k, .int .i64 a, .int .i64 b, .int .i64 c] 47))
  have x0 := cells_get hx2 0 (v := .int .u8 k) rfl
  have x1 := cells_get hx2 1 (v := .int .i64 a) rfl
  have x2 := cells_get hx2 2 (v := .int .i64 b) rfl
  have x3 := cells_get hx2 3 (v := .int .i64 c) rfl
  have c2 := cells_get h2.1 2 (v := .slice A l.length cp) rfl
  have lB := lt_of_heap h2.1
  have H2 := Lib.hid h2
  have HX2 := Lib.hid hx2
  clear h2 hx2
  go_wp2_with fail
  have hs1 : l.length ≤ 65536 := by omega
  have hs2 : base ≤ (w2.alloc (.cells #[.int .u8 k, .int .i64 a, .int .i64 b, .int .i64 c] 47)).drew.heap.size := by simp; omega
  go_region_law (refine app_step (W := (w2.alloc (.cells #[.int .u8 k, .int .i64 a, .int .i64 b, .int .i64 c] 47)).drew) (base := base) (xs := l.flatMap Atom.cells) ⟨k, a, b, c⟩ (.tmp 33) (.tmp 35) rfl rfl rfl ((H2.out.2.2.alloc _).drew) rfl (heap_alloc_new w2 _) hs1 hs2 ?_; intro gg cap w3 hown3 hgrow3 hat3 hlt3; have HB := heap_grown HB3.out hgrow3 (Ne.symm hap); have HX := heap_grown HX3.out hgrow3 (Ne.symm hap2); have d2 := cells_get HB 2 (v := .slice A l.length cp) rfl; have e2 := cells_free HB 2; have l3 := lt_of_heap HB; have HBh := Lib.hid HB; have HXh := Lib.hid HX; have Hown := Lib.hid hown3; clear HB HX hown3)
  all_goals
    generalize hw4 : w3.setCell ⟨B, 2, none⟩ (.slice (some ⟨gg, 0, none⟩) (l.length + 1) cap) = w4
    obtain ⟨hB4, hX4, ⟨D, hm4, hD, hk4⟩, ho4, ht4⟩ := H2.out.mid HX2.out hap2 hgrow3 Hown.out hw4
    clear d2 e2 l3 hgrow3 hw4 x0 x1 x2 x3 c2 lB
    have x0 := cells_get hX4 0 (v := .int .u8 k) rfl
    have x1 := cells_get hX4 1 (v := .int .i64 a) rfl
    have x2 := cells_get hX4 2 (v := .int .i64 b) rfl
    have x3 := cells_get hX4 3 (v := .int .i64 c) rfl
    have c1 := cells_get hB4 1 (v := .map (some M)) rfl
    have c2 := cells_get hB4 2 (v := .slice (some ⟨gg, 0, none⟩) (l.length + 1) cap) rfl
    have lB := lt_of_heap hB4
    obtain ⟨kl, hkl⟩ := key_of ⟨k, a, b, c⟩ hx
    have HB4 := Lib.hid (heap_d hB4)
    have HBM := Lib.hid (map_ne hB4 hm4)
    have HK4 := Lib.hid hk4
    have HO4 := Lib.hid ho4
    clear hB4 hX4 hk4 ho4
    go_wp2_with fail
    go_still_tail 10, (by kernel_rfl)
    change wpList _ _ _ _ _ w4.drew
    have hm5 := hm4.drew
    have HWF := Lib.hid (show (Lit.int .i64 ((l.length : Int) + 1)).wf = true from WalkArith.wf_i64 (by omega))
    go_wp2_with (at_mapUpdate; refine wpList_mapUpdate_own _ rfl _ _ _ 39 rfl 47 3 law Try.underlying39 _ M l.length D rfl hm5 (by unfold maxLen; omega) _ _ kl rfl rfl hkl (.lit (.int .i64 (l.length + 1))) [] (plainElem_int Try.underlying3 HWF.out) ?_; intro w5 hown5 hgrow5; have HB5 := Lib.hid (heap_grown HB4.out hgrow5 (by simpa using HBM.out)); have HG5 := Lib.hid hgrow5; have HM5 := Lib.hid hown5; have HKL := Lib.hid hkl; have HMap := Lib.hid (hm4); clear x0 x1 x2 x3 c1 c2 lB hkl hm4 hm5 hown5 hgrow5; have c2 := cells_get HB5.out 2 (v := .slice (some ⟨gg, 0, none⟩) (l.length + 1) cap) rfl)
    go_ret
    have hapm : (Value.slice (some ⟨gg, 0, none⟩) (l.length + 1) cap).ownBlock ≠ some M := by
      obtain ⟨es, cl, hb, _⟩ := HMap.out
      exact own_apart_map HO4.out hb
    refine ⟨rfl, _, ⟨HB5.out, ⟨_, by simpa using HM5.out, hD.put _ _, place_put (x := ⟨k, a, b, c⟩) HKL.out HN.out hD HK4.out⟩, ?_⟩, ?_, ?_⟩
    · simpa using (HO4.out.drew).kept HG5.out (.inr hapm)
    · have t1 : Touch w w2 (fun i => i = B ∨ i = M ∨ (Value.slice A l.length cp).ownBlock = some i) := Touch.of_below hb2
      have t2 := t1.trans ht4.drew (fun i _ h => by rcases h with h | h; exact .inl h; exact .inr (.inr h))
      exact t2.trans (Touch.of_grown (S := fun i => i = M) HG5.out (fun i e => by cases e; rfl)) (fun i _ h => .inr (.inl h))
    · rcases hat3 with h | h
      · exact .inl h.symm
      · exact .inr ⟨gg, rfl, by simp at h; omega⟩

end Go.Proofs.Ytiimhndiifojnaa.At
