/- AtomsRow's walk. -/
import Derived.Test.YtmobhphjpkpidaaAtRow
namespace Go.Proofs.Ytmobhphjpkpidaa.At
open Go.RowKit

theorem bounds_u8 {n : Int} (h : (Lit.int .u8 n).wf = true) : 0 ≤ n ∧ n < 256 := by
  simp [Lit.wf, IntKind.min, IntKind.max, IntKind.bits, IntKind.signed] at h; omega

/-- The table and the row of the law by now. -/
structure Two (w wr : World) (B M : Nat) (lim : Int) (full : Bool) (v : Value) (u : Value) (l l2 : List Atom) : Prop where
  tb : Tb wr w.heap.size B M lim full v l
  own : wr.ownsRow w.heap.size 23 4 u l2.length (l2.flatMap Atom.cells)
  apart : ∀ g, u.ownBlock = some g → v.ownBlock ≠ some g
  bel : Below w.heap.size w wr
  least : w.heap.size ≤ B ∧ w.heap.size ≤ M

theorem Two.below {w wr w' : World} {B M : Nat} {lim : Int} {full : Bool} {v u : Value} {l l2 : List Atom} (h : Two w wr B M lim full v u l l2) (hb : Below wr.heap.size wr w') : Two w w' B M lim full v u l l2 :=
  ⟨h.tb.below hb, own_touch h.own (Touch.of_below (S := fun _ => False) hb) (fun _ _ h => h), h.apart, h.bel.trans (hb.mono h.bel.size), h.least⟩

theorem Two.slice {w wr : World} {B M : Nat} {lim : Int} {full : Bool} {v u : Value} {l l2 : List Atom} (h : Two w wr B M lim full v u l l2) : ∃ A c, u = .slice A l2.length c := by
  rcases own_len h.own with ⟨e, h0⟩ | ⟨g, cap, e⟩
  · exact ⟨none, 0, by rw [e, h0]⟩
  · exact ⟨_, _, e⟩

theorem Two.foot {w wr w' : World} {B M : Nat} {lim : Int} {full : Bool} {v u : Value} {l l2 : List Atom} (h : Two w wr B M lim full v u l l2) {F : Nat → Prop} (ht : Touch wr w' F) (hF : ∀ i, F i → i = B ∨ i = M ∨ v.ownBlock = some i) :
    Below w.heap.size w w' ∧ w'.ownsRow w.heap.size 23 4 u l2.length (l2.flatMap Atom.cells) := by
  refine ⟨Touch.belows h.bel ht (Nat.le_refl _) (fun i hi => ?_), own_touch h.own ht (fun g hg hFg => ?_)⟩
  · rcases hF i hi with e | e | e
    · rw [e]; exact h.least.1
    · rw [e]; exact h.least.2
    · exact (h.tb.2.2.lt i e).1
  · rcases hF g hFg with e | e | e
    · subst e; exact own_apart h.own h.tb.1 (by decide) hg
    · subst e
      obtain ⟨D, ⟨es, cl, hb, _⟩, _⟩ := h.tb.2.1
      exact own_apart_map h.own hb hg
    · exact h.apart g hg e

/-- Behind an append to the law's row. -/
theorem Two.grow {w wr w3 : World} {X : Obj} {B M g n cp : Nat} {A : Option Addr} {lim : Int} {full : Bool} {v : Value} {l l2 : List Atom} (h : Two w wr B M lim full v (.slice A n cp) l l2) (hg : (wr.alloc X).grownBy w3 (Value.slice A n cp).ownBlock)
    (hat : (Value.slice A n cp).ownBlock = some g ∨ g = (wr.alloc X).heap.size) :
    Tb w3 w.heap.size B M lim full v l ∧ v.ownBlock ≠ some g ∧ Below w.heap.size w w3 ∧ Touch wr w3 (fun i => (Value.slice A n cp).ownBlock = some i) := by
  have t0 : Touch wr wr (fun i => (Value.slice A n cp).ownBlock = some i) := Touch.refl _ _
  have t1 := (t0.alloc X).trans (Touch.of_grown (S := fun i => (Value.slice A n cp).ownBlock = some i) hg (fun i e => e)) (fun _ _ h => h)
  refine ⟨h.tb.touch t1 (fun e => ?_) (fun e => ?_) (fun b hb e => h.apart b e hb), ?_, Touch.belows h.bel t1 (Nat.le_refl _) (fun i e => (h.own.lt i e).1), t1⟩
  · exact own_apart h.own h.tb.1 (by decide) e
  · obtain ⟨D, ⟨es, cl, hb, _⟩, _⟩ := h.tb.2.1
    exact own_apart_map h.own hb e
  · rcases hat with e | e
    · exact h.apart g e
    · intro e2
      have := (h.tb.2.2.lt g e2).2
      simp at e
      omega

theorem Two.grow2 {w wr w3 : World} {X : Obj} {B M g cap cp : Nat} {A : Option Addr} {lim : Int} {full : Bool} {v : Value} {l : List Atom} {x : Atom} (h : Two w wr B M lim full v (.slice A l.length cp) l l)
    (ho : w3.ownsRow w.heap.size 23 4 (.slice (some ⟨g, 0, none⟩) (l.length + 1) cap) (l.length + 1) (l.flatMap Atom.cells ++ x.cells)) (hg : (wr.alloc X).grownBy w3 (Value.slice A l.length cp).ownBlock)
    (hat : (Value.slice A l.length cp).ownBlock = some g ∨ g = (wr.alloc X).heap.size) :
    Two w w3 B M lim full v (.slice (some ⟨g, 0, none⟩) (l.length + 1) cap) l (l ++ [x]) ∧ Touch wr w3 (fun i => (Value.slice A l.length cp).ownBlock = some i) := by
  obtain ⟨h1, h2, h3, h4⟩ := h.grow hg hat
  refine ⟨⟨h1, by simpa using ho, fun g' e => ?_, h3, h.least⟩, h4⟩
  simp [Value.ownBlock] at e
  subst e
  exact h2

theorem Two.numbered {w w3 w4 : World} {B M : Nat} {lim : Int} {full full' : Bool} {v v' u : Value} {l l' l2 : List Atom} (h : Two w w3 B M lim full v u l l2) (ht : Tb w4 w.heap.size B M lim full' v' l')
    (htt : Touch w3 w4 (fun i => i = B ∨ i = M ∨ v.ownBlock = some i)) (hv : v'.ownBlock = v.ownBlock ∨ ∃ g, v'.ownBlock = some g ∧ w3.heap.size ≤ g) : Two w w4 B M lim full' v' u l' l2 := by
  obtain ⟨f1, f2⟩ := h.foot htt (fun i h => h)
  refine ⟨ht, f2, fun g e => ?_, f1, h.least⟩
  rcases hv with e2 | ⟨g2, e2, h2⟩
  · rw [e2]; exact h.apart g e
  · rw [e2]
    intro e3
    have := (h.own.lt g e).2
    cases e3
    omega

def Loop1 (w : World) (B M len : Nat) (lim : Int) (t u : Value) (wr : World) : Prop :=
  ∃ (k : Nat) (full : Bool) (v : Value) (l : List Atom), t = .int .i64 (k : Int) ∧ k ≤ len ∧ l.length ≤ k ∧ (l.length : Int) ≤ lim ∧ Two w wr B M lim full v u l l

def Loop2 (w : World) (B M : Nat) (lim : Int) (u : Value) (l : List Atom) (t : Value) (wr : World) : Prop :=
  ∃ (k : Nat) (full : Bool) (v : Value), t = .int .i64 (k : Int) ∧ k ≤ l.length ∧ Two w wr B M lim full v u l l

theorem find_at (w : World) (A : Option Addr) (cap m : Nat) (l : List Atom) (h : Row w A l) (hm : l.length = m) (hl : l.length ≤ 1000) (k a b c n : Int) (hn : (place l ⟨k, a, b, c⟩ : Int) = n) :
    Calls Try.prog 13 #[.slice A m cap, .agg #[.int .u8 k, .int .i64 a, .int .i64 b, .int .i64 c]] w fun e w' => e = .returned (.int .i64 n) ∧ Below w.heap.size w w' := by
  subst hn; subst hm; exact find_is w A cap l h hl k a b c

/-- An atom is appended to a row of the call's own. -/
theorem app_list {ops : Array Oper} {rest : List Oper} {o : Oper} {a : Act} {Q : Exit → Act → World → Prop} {W : World} {base n blk cp : Nat} {A : Option Addr} {xs : List Value} (x : Atom) (s y : Operand)
    (hgd : o.guard = none) (ho : o.op = .call { callee := .builtin .append, args := #[s, y], argTypes := #[31, 31] })
    (hs : a.eval s = .slice A n cp) (hown : W.ownsRow base 23 4 (.slice A n cp) n xs) (hx : a.eval y = .slice (some ⟨blk, 0, none⟩) 1 1)
    (hn : W.heap[blk]? = some (.cells #[.int .u8 x.k, .int .i64 x.a, .int .i64 x.b, .int .i64 x.c] 23 (0, 0))) (hsz : n ≤ 65536) (hbase : base ≤ W.heap.size)
    (h : ∀ g cap w', w'.ownsRow base 23 4 (.slice (some ⟨g, 0, none⟩) (n + 1) cap) (n + 1) (xs ++ x.cells) → W.grownBy w' (Value.slice A n cp).ownBlock → ((Value.slice A n cp).ownBlock = some g ∨ g = W.heap.size) → g < w'.heap.size → wpList Try.prog ops Q rest (a.put o.dst (.slice (some ⟨g, 0, none⟩) (n + 1) cap)) w') :
    wpList Try.prog ops Q (o :: rest) a W := by
  obtain ⟨i0, hi0, hz0, hz1, hz2⟩ := info_parts atom_info
  refine wpList_plain hgd fun K hK => ?_
  exact wp_append_lies W s y 31 ho base 23 i0 _ 4 32 Try.underlying31 hi0 hz0 hz1 hz2 rfl (by omega) _ n xs hs hown ⟨blk, 0, none⟩ 1 1 x.cells hx rfl
    (World.news_of_block (cs := #[.int .u8 x.k, .int .i64 x.a, .int .i64 x.b, .int .i64 x.c]) hn) (by simp [Value.oneCell', Atom.cells]) (by omega) (by unfold maxLen; omega) (by omega) hbase _ rfl (fun g cap w' h1 h2 h3 h4 => hK _ _ (h g cap w' h1 h2 h3 h4))

set_option maxRecDepth 100000 in
set_option maxHeartbeats 3200000 in
theorem atomsRow_any (lim : Int) (wl : (Lit.int .u8 lim).wf = true) (c : Option Addr) (len cap : Nat) (zs : List Atom) (w : World) (hr : IsAtoms w c len cap zs) :
    Calls Try.prog 4 #[.int .u8 lim, .slice c len cap] w fun e w' => e = .returned (.bool true) ∧ Below w.heap.size w w' := by
  obtain ⟨hzl, hle1, hle2, hwf, hrow⟩ := hr
  unfold maxLen at hle2
  obtain ⟨b1, b2⟩ := bounds_u8 wl
  have HZ := Lib.hid hzl
  have HW := Lib.hid hwf
  have HR := Lib.hid hrow
  clear hzl hwf hrow wl
  by_cases hg : 200 < len
  · go_enter Try.func4, Try.ntmps4
    go_wp2_with fail
    refine (fixed_any _).mono ?_
    rintro e w1 ⟨rfl, hb⟩
    go_wp2
    go_ret
    exact ⟨rfl, hb⟩
  · go_enter Try.func4, Try.ntmps4
    go_wp2_with fail
    refine (new_is _ lim b1 (by omega)).mono ?_
    rintro e w1 ⟨rfl, ht, hb⟩
    have HT := Lib.hid ht
    have HB := Lib.hid hb
    clear ht hb
    go_wp2
    go_loopw [6, 24] (fun u t wr => Loop1 w (w.heap.size + 1) w.heap.size len lim t u wr) (fun _ t _ => len - (intOf t).toNat)
    case atStart =>
      refine ⟨0, false, .slice none 0 0, [], rfl, by omega, by simp, by simpa using b1, ?_, ?_, ?_, ?_, by omega, by omega⟩
      · exact HT.out.below ((Below.refl _ _).alloc (Nat.le_refl _) _)
      · have := World.ownsRow_made (base := w.heap.size) (e := 23) (size := 4) w1 #[] 0 HB.out.size (Nat.zero_le _) (by simp)
        simpa using this
      · intro g _; simp [Value.ownBlock]
      · exact HB.out.alloc HB.out.size _
    case round =>
      clear HT HB
      obtain ⟨k, full, v, l, rfl, hk, hlk, hll, h2⟩ := hrel
      obtain ⟨A, cp, rfl⟩ := h2.slice
      have H := Lib.hid h2
      clear h2
      by_cases hlt : k < len
      · obtain ⟨x, hx⟩ : ∃ x, zs[k]? = some x := ⟨_, List.getElem?_eq_getElem (by rw [HZ.out]; exact hlt)⟩
        have xwf := HW.out x (List.mem_of_getElem? hx)
        obtain ⟨b, off, rfl, hbl, q0, q1, q2, q3⟩ := (HR.out.below H.out.bel) k x hx
        obtain ⟨xk, xa, xb, xc⟩ := x
        have XW := Lib.hid xwf
        clear hx xwf
        obtain ⟨n, hn⟩ : ∃ n : Int, (place l ⟨xk, xa, xb, xc⟩ : Int) = n := ⟨_, rfl⟩
        have HN := Lib.hid hn
        clear hn
        have hal : Below wr.heap.size wr (wr.alloc (.cells #[.int .u8 xk, .int .i64 xa, .int .i64 xb, .int .i64 xc] 23)) := (Below.refl _ _).alloc (Nat.le_refl _) _
        have H1 := Lib.hid (H.out.below hal)
        clear hal
        go_wp2_with fail
        refine (find_at _ A cp l.length l (own_row H1.out.own) rfl (by omega) xk xa xb xc n HN.out).mono ?_
        rintro e w2 ⟨rfl, hb2⟩
        have hbox := heap_below (heap_alloc_new wr (.cells #[.int .u8 xk, .int .i64 xa, .int .i64 xb, .int .i64 xc] 23)) hb2
        have H2 := Lib.hid (H1.out.below hb2)
        have x0 := cells_get hbox 0 (v := .int .u8 xk) rfl
        have x1 := cells_get hbox 1 (v := .int .i64 xa) rfl
        have x2 := cells_get hbox 2 (v := .int .i64 xb) rfl
        have x3 := cells_get hbox 3 (v := .int .i64 xc) rfl
        have hwl : wr.heap.size < w2.heap.size := lt_of_heap hbox
        have HX := Lib.hid hbox
        clear hb2 hbox H1 q0 q1 q2 q3
        by_cases hn0 : 1 ≤ n
        · -- it is there
          have e1 : (n == 0) = false := by simp; omega
          have e2 : (n != 0) = true := by simp; omega
          go_wp2_with fail
          refine (number_old _ w.heap.size _ _ lim full v l H2.out.tb xk xa xb xc XW.out n HN.out hn0).mono ?_
          rintro e w3 ⟨rfl, hb3⟩
          have hx3 := heap_below HX.out hb3
          have H3 := Lib.hid (H2.out.below hb3)
          clear x0 x1 x2 x3
          have x0 := cells_get hx3 0 (v := .int .u8 xk) rfl
          have x1 := cells_get hx3 1 (v := .int .i64 xa) rfl
          have x2 := cells_get hx3 2 (v := .int .i64 xb) rfl
          have x3 := cells_get hx3 3 (v := .int .i64 xc) rfl
          clear hx3 hb3
          go_wp2_with fail
          refine (look_is _ w.heap.size _ _ lim full v l H3.out.tb xk xa xb xc XW.out n HN.out).mono ?_
          rintro e w4 ⟨rfl, hb4⟩
          have H4 := Lib.hid (H3.out.below hb4)
          clear hb4 x0 x1 x2 x3
          go_wp2
          go_roundw
          case rel => exact ⟨k + 1, full, v, l, by first | rfl | go_num, by omega, by omega, hll, H4.out⟩
          case measure => simp [intOf]; omega
        · obtain rfl : n = 0 := by have := HN.out; omega
          have hp0 : place l ⟨xk, xa, xb, xc⟩ = 0 := by have := HN.out; omega
          have HP := Lib.hid hp0
          clear hp0 hn0
          by_cases hroom : (l.length : Int) < lim
          · have hs1 : l.length ≤ 65536 := by omega
            have hs2 : w.heap.size ≤ (w2.alloc (.cells #[.int .u8 xk, .int .i64 xa, .int .i64 xb, .int .i64 xc] 23)).heap.size := by have := H2.out.bel.size; simp; omega
            have hnu : ¬ (Value.slice A l.length cp).ownBlock = some wr.heap.size := fun e => by have := (H.out.own.lt _ e).2; omega
            go_wp2_with (at_builtin; refine app_list (W := w2.alloc (.cells #[.int .u8 xk, .int .i64 xa, .int .i64 xb, .int .i64 xc] 23)) (base := w.heap.size) (xs := l.flatMap Atom.cells) ⟨xk, xa, xb, xc⟩ (.tmp 40) (.tmp 42) rfl rfl rfl (H2.out.own.alloc _) rfl (heap_alloc_new w2 _) hs1 hs2 ?_; intro gg cap3 w3 hown3 hgrow3 hat3 hlt3; obtain ⟨tw3, t3⟩ := H2.out.grow2 hown3 hgrow3 hat3; have hx3 := heap_touch HX.out t3 hnu; have H3 := Lib.hid tw3; clear x0 x1 x2 x3 hown3 hgrow3 hat3 tw3 t3; have x0 := cells_get hx3 0 (v := .int .u8 xk) rfl; have x1 := cells_get hx3 1 (v := .int .i64 xa) rfl; have x2 := cells_get hx3 2 (v := .int .i64 xb) rfl; have x3 := cells_get hx3 3 (v := .int .i64 xc) rfl; have HX3 := Lib.hid hx3; clear hx3)
            refine (number_new _ w.heap.size _ _ lim full v l H3.out.tb xk xa xb xc XW.out HP.out hroom (by omega) H3.out.bel.size).mono ?_
            rintro e w4 ⟨rfl, v', ht4, tt4, hv4⟩
            have hx4 := heap_touch HX3.out tt4 (fun e => by
              rcases e with e | e | e
              · have h1 := H3.out.tb.1; have h2 := HX3.out; rw [e] at h2; rw [h1] at h2; injection h2 with h2; injection h2 with _ ht; exact absurd ht (by decide)
              · have h2 := HX3.out
                obtain ⟨D, ⟨es, cl, hb, _⟩, _⟩ := H3.out.tb.2.1
                rw [e, hb] at h2; injection h2 with h2; cases h2
              · have := (H.out.tb.2.2.lt _ e).2; omega)
            have H4 := Lib.hid (H3.out.numbered ht4 tt4 hv4)
            clear x0 x1 x2 x3
            have x0 := cells_get hx4 0 (v := .int .u8 xk) rfl
            have x1 := cells_get hx4 1 (v := .int .i64 xa) rfl
            have x2 := cells_get hx4 2 (v := .int .i64 xb) rfl
            have x3 := cells_get hx4 3 (v := .int .i64 xc) rfl
            clear hx4 ht4 tt4 hv4
            go_wp2_with fail
            refine (look_is _ w.heap.size _ _ lim full v' _ H4.out.tb xk xa xb xc XW.out ((l.length : Int) + 1) (by rw [place_snoc, if_neg (by simp [HP.out]), if_pos rfl]; simp)).mono ?_
            rintro e w5 ⟨rfl, hb5⟩
            have H5 := Lib.hid (H4.out.below hb5)
            clear hb5 x0 x1 x2 x3
            go_wp2
            go_roundw
            case rel => exact ⟨k + 1, full, v', l ++ [⟨xk, xa, xb, xc⟩], by first | rfl | go_num, by omega, by simp; omega, by simp; omega, by simpa using H5.out⟩
            case measure => simp [intOf]; omega
          · have hroom2 : lim ≤ (l.length : Int) := by omega
            go_wp2_with fail
            refine (number_full _ w.heap.size _ _ lim full v l H2.out.tb xk xa xb xc XW.out HP.out hroom2).mono ?_
            rintro e w3 ⟨rfl, ht3, tt3⟩
            obtain ⟨f1, f2⟩ := H2.out.foot tt3 (fun i h => .inl h)
            have hx3 := heap_touch HX.out tt3 (fun e => by have h1 := H2.out.tb.1; have h2 := HX.out; rw [e] at h2; rw [h1] at h2; injection h2 with h2; injection h2 with _ ht; exact absurd ht (by decide))
            have H3 := Lib.hid (Two.mk ht3 f2 H2.out.apart f1 H2.out.least)
            clear x0 x1 x2 x3
            have x0 := cells_get hx3 0 (v := .int .u8 xk) rfl
            have x1 := cells_get hx3 1 (v := .int .i64 xa) rfl
            have x2 := cells_get hx3 2 (v := .int .i64 xb) rfl
            have x3 := cells_get hx3 3 (v := .int .i64 xc) rfl
            clear hx3 ht3 tt3 f1 f2
            go_wp2_with fail
            refine (look_is _ w.heap.size _ _ lim true v l H3.out.tb xk xa xb xc XW.out 0 HN.out).mono ?_
            rintro e w4 ⟨rfl, hb4⟩
            have H4 := Lib.hid (H3.out.below hb4)
            clear hb4 x0 x1 x2 x3
            go_wp2
            go_roundw
            case rel => exact ⟨k + 1, true, v, l, by first | rfl | go_num, by omega, by omega, hll, H4.out⟩
            case measure => simp [intOf]; omega
      · have hl200 : l.length ≤ 200 := by omega
        clear hlk hll
        go_wp2
        clear hlt hk
        go_loopw [61] (fun t wr => Loop2 w (w.heap.size + 1) w.heap.size lim (.slice A l.length cp) l t wr) (fun t _ => l.length - (intOf t).toNat)
        case atStart => exact ⟨0, full, v, rfl, by omega, H.out⟩
        case round =>
          clear H
          obtain ⟨i, full2, v2, rfl, hi, h2⟩ := hrel
          have H := Lib.hid h2
          clear h2
          by_cases hlt : i < l.length
          · obtain ⟨x, hx⟩ : ∃ x, l[i]? = some x := ⟨_, List.getElem?_eq_getElem hlt⟩
            obtain ⟨b, off, rfl, hbl, q0, q1, q2, q3⟩ := (own_row H.out.own) i x hx
            have HXX := Lib.hid hx
            clear hx
            have hal : Below wr.heap.size wr (wr.alloc (.cells #[.int .u8 x.k, .int .i64 x.a, .int .i64 x.b, .int .i64 x.c] 23)) := (Below.refl _ _).alloc (Nat.le_refl _) _
            have H1 := Lib.hid (H.out.below hal)
            clear hal
            go_wp2_with fail
            refine (at_is _ w.heap.size _ _ lim full2 v2 l H1.out.tb i x HXX.out (by omega) _ (by simp)).mono ?_
            rintro e w2 ⟨rfl, hb2⟩
            have hx2 := heap_below (heap_alloc_new wr (.cells #[.int .u8 x.k, .int .i64 x.a, .int .i64 x.b, .int .i64 x.c] 23)) hb2
            have H2 := Lib.hid (H1.out.below hb2)
            have x0 := cells_get hx2 0 (v := .int .u8 x.k) rfl
            have x1 := cells_get hx2 1 (v := .int .i64 x.a) rfl
            have x2 := cells_get hx2 2 (v := .int .i64 x.b) rfl
            have x3 := cells_get hx2 3 (v := .int .i64 x.c) rfl
            have hlw : wr.heap.size < w2.heap.size := lt_of_heap hx2
            clear hb2 hx2 H1 q0 q1 q2 q3
            have H3 := Lib.hid (H2.out.below ((Below.refl _ _).alloc (Nat.le_refl _) (.cells #[.int .u8 x.k, .int .i64 x.a, .int .i64 x.b, .int .i64 x.c] 23)))
            go_wp2
            go_roundw
            case rel => exact ⟨i + 1, full2, v2, by first | rfl | go_num, by omega, H3.out⟩
            case measure => simp [intOf]; omega
          · go_wp2_with fail
            refine (fixed_any _).mono ?_
            rintro e w2 ⟨rfl, hb2⟩
            have H2 := Lib.hid (H.out.below hb2)
            clear hb2
            go_wp2_with fail
            refine (len_is _ w.heap.size _ _ lim full2 v2 l H2.out.tb).mono ?_
            rintro e w3 ⟨rfl, rfl⟩
            go_wp2
            go_ret
            exact ⟨by simp, H2.out.bel⟩

end Go.Proofs.Ytmobhphjpkpidaa.At
