/- CnfForms: the law's walk. -/
import Derived.Test.YtiomocmceccmbaaCnApp
namespace Go.Proofs.Ytiomocmceccmbaa.Cn
open Go.RowKit

theorem isRow_row {w : World} {a : Option Addr} {len cap : Nat} {zs : List Int} (h : IsRow .i64 w a len cap zs) : Row w 0 (.slice a len cap) (zs.take len) := by
  have hle := h.le
  have hlen : (zs.take len).length = len := by
    rcases h with ⟨_, rfl, _, rfl⟩ | ⟨_, _, h1, _, h3, _⟩
    · rfl
    · rw [List.length_take]; omega
  refine ⟨a, cap, by rw [hlen], by omega, hle.2, ?_, fun x hx => ?_⟩
  · by_cases h0 : len = 0
    · left; subst h0; simp
    · right
      obtain ⟨b, off, e, hb, hc⟩ := h.at (by omega)
      refine ⟨b, off, e, Nat.zero_le _, hb, fun j hj => ?_⟩
      rw [hlen] at hj
      rw [(hc j hj).1]
      unfold nthI
      rw [List.getD_eq_getElem?_getD, List.getD_eq_getElem?_getD, List.getElem?_take, if_pos hj]
  · rcases h with ⟨_, _, _, rfl⟩ | ⟨_, _, _, _, _, _, hw⟩
    · simp at hx
    · exact bounds_i64' (hw x (List.mem_of_mem_take hx))

/-- Any row has a form, or has none. -/
theorem form_cases {zs ys : List Int} {e : Ending} {w w' : World} (h : FormPost w zs e w') (hm : ∀ x, x ∈ zs ↔ x ∈ ys) (f : List Int) (hg : Good ys f) : ∃ v, e = .returned (.tuple #[v, .bool true]) ∧ Row w' w.heap.size v f := by
  rcases h.2 with ⟨_, hb⟩ | ⟨v, g, he, hgood, hr⟩
  · exact absurd (bad_congr hb hm) hg.not
  · rw [good_unique hgood hg hm] at hr; exact ⟨v, he, hr⟩
theorem form_cases_bad {zs ys : List Int} {e : Ending} {w w' : World} (h : FormPost w zs e w') (hm : ∀ x, x ∈ zs ↔ x ∈ ys) (hb : Bad ys) : e = .returned (.tuple #[.slice none 0 0, .bool false]) := by
  rcases h.2 with ⟨he, _⟩ | ⟨v, g, he, hgood, hr⟩
  · exact he
  · exact absurd (bad_congr hb fun x => (hm x).symm) hgood.not
theorem row_nil (w : World) : Row w 0 (.slice none 0 0) [] := ⟨none, 0, rfl, Nat.le_refl _, by simp [maxLen], .inl rfl, by simp⟩
theorem own_nil (w : World) (b : Nat) : Own w b (.slice none 0 0) [] := ⟨rfl, .inl ⟨rfl, rfl⟩⟩

theorem below_one {w wr w1 : World} {o : Obj} (h : Below w.heap.size w wr) (hg : (wr.alloc o).grownBy w1 (Value.slice (some ⟨wr.heap.size, 0, none⟩) 1 1).ownBlock) : Below w.heap.size w w1 :=
  Touch.belows (h.alloc h.size o) (Touch.of_grown (S := fun i => i = wr.heap.size) hg (fun i e => by injection e with e; exact e.symm)) (Nat.le_refl _) (fun i hi => by rw [hi]; exact h.size)
theorem own_size {w w1 : World} {o : Obj} (h : Below w.heap.size w w1) : w.heap.size ≤ (w1.alloc o).heap.size := by have := h.size; simp; omega
theorem forms_len {os : List Int} {k n : Nat} {x : Int} (h : os.length = 2 * k) (hk : k ≤ n) (hn : n ≤ 100) : ([x] ++ os).length + ([x] : List Int).length ≤ 200000 := by simp; omega

theorem turn_all {n T : Nat} (hn : 0 < n) {m : Nat} (hm : m < n) : ∃ j, j < n ∧ (j + T) % n = m := by
  refine ⟨(m + (n - T % n)) % n, Nat.mod_lt _ hn, ?_⟩
  have h1 := Nat.mod_lt T hn
  have e : m + (n - T % n) + T = m + n * (T / n + 1) := by
    have h2 := Nat.div_add_mod T n
    rw [Nat.mul_add, Nat.mul_one]; omega
  rw [Nat.mod_add_mod, e, Nat.add_mul_mod_self_left, Nat.mod_eq_of_lt hm]

set_option maxRecDepth 100000 in
set_option maxHeartbeats 3200000 in
theorem cnfForms_any (a : Option Addr) (len cap : Nat) (zs0 : List Int) (t : Int) (wt : (Lit.int .u8 t).wf = true) (w : World) (h : IsRow .i64 w a len cap zs0) :
    Calls Try.prog 6 #[.slice a len cap, .int .u8 t] w fun e w' => e = .returned (.bool true) ∧ Below w.heap.size w w' := by
  have hle := h.le
  have hrow := isRow_row h
  obtain ⟨zs, hzs⟩ : ∃ zs, zs0.take len = zs := ⟨_, rfl⟩
  rw [hzs] at hrow
  have hlz : zs.length = len := by
    obtain ⟨A, c, e, _⟩ := hrow
    injection e with _ e; exact e.symm
  have HR := Lib.hid hrow
  have HL := Lib.hid hlz
  have ht : 0 ≤ t ∧ t ≤ 255 := by simp [Lit.wf, IntKind.min, IntKind.max, IntKind.bits, IntKind.signed] at wt; omega
  obtain ⟨T, rfl⟩ : ∃ T : Nat, t = (T : Int) := ⟨t.toNat, by omega⟩
  obtain ⟨t0, t1⟩ := ht
  obtain ⟨l1, l2⟩ := hle
  unfold maxLen at l2
  clear h hrow hzs hlz wt
  by_cases hg : 100 < len
  · go_enter Try.func6, Try.ntmps6
    go_wp2_with fail
    refine (fixed_any _).mono ?_
    rintro e w1 ⟨rfl, hb⟩
    have HB := Lib.hid hb
    clear hb
    go_wp2
    go_ret
    exact ⟨rfl, HB.out⟩
  go_enter Try.func6, Try.ntmps6
  go_wp2
  go_loopw [18, 5] (fun i o wr => ∃ (k : Nat) (A' : Option Addr) (L' c' : Nat) (os : List Int), i = .int .i64 (k : Int) ∧ o = .slice A' L' c' ∧ k ≤ len ∧ Own wr w.heap.size (.slice A' L' c') os ∧ os.length = 2 * k ∧ (∀ x, x ∈ os ↔ ∃ j, j < k ∧ nthI zs ((j + T) % len) = x) ∧ Below w.heap.size w wr) (fun i _ _ => len - (intOf i).toNat)
  case atStart => exact ⟨0, none, 0, 0, [], rfl, rfl, by omega, own_nil _ _, rfl, fun x => by simp, Below.refl _ _⟩
  case round =>
    obtain ⟨k, A', L', c', os, rfl, rfl, hk, hown, hol, hmem, hbw⟩ := hrel
    have HO := Lib.hid hown
    have HOL := Lib.hid hol
    have HM := Lib.hid hmem
    have HW := Lib.hid hbw
    clear hown hol hmem hbw
    by_cases hkl : k < len
    · have HLE := Lib.hid (show len ≤ 100 by omega)
      obtain ⟨m, hm⟩ : ∃ m, (k + T) % len = m := ⟨_, rfl⟩
      have hml : m < len := by rw [← hm]; exact Nat.mod_lt _ (by omega)
      obtain ⟨b, off, rfl, hcell⟩ := (HR.out.belows HW.out (Nat.le_refl _)).at (by omega)
      obtain ⟨x, hx⟩ : ∃ x, nthI zs m = x := ⟨_, rfl⟩
      have cx := hcell m hml
      rw [hx] at cx
      have hbx := HR.out.bounds x (by rw [← hx]; exact nthI_mem (by rw [HL.out]; exact hml))
      have HBX := Lib.hid hbx
      have hmi : ((k : Int) + (T : Int)) % (len : Int) = (m : Int) := by rw [← hm, Int.natCast_emod]; simp
      have HX := Lib.hid hx
      have HMM := Lib.hid hm
      clear hx hm hcell hbx
      have HS1 := Lib.hid (show ([x] : List Int).length + os.length ≤ 200000 by have := HOL.out; simp; omega)
      have HO1 := Lib.hid (Own.one (heap_alloc_new wr (.cells #[.int .i64 x] 3)) HW.out.size)
      have HRO := Lib.hid ((HO.out.row fun y hy => by
        obtain ⟨j, hj, e⟩ := (HM.out y).1 hy
        refine HR.out.bounds y ?_
        rw [← e]; exact nthI_mem (by rw [HL.out]; exact Nat.mod_lt _ (by omega))).below ((Below.refl wr.heap.size wr).alloc (Nat.le_refl _) (.cells #[.int .i64 x] 3)))
      have hs2 : w.heap.size ≤ (wr.alloc (.cells #[.int .i64 x] 3)).heap.size := by have := HW.out.size; simp; omega
      go_wp2_with (first | (at_builtin; refine wpList_append_row (v := .slice (some ⟨wr.heap.size, 0, none⟩) 1 1) (x := .slice A' L' c') rfl (.tmp 32) (.tmp 33) rfl rfl rfl rfl HO1.out HRO.out HS1.out hs2 ?_; intro A1 L1 c1 w1 hown1 hgrow1 hat1; have hB1 := below_one HW.out hgrow1; have HB1 := Lib.hid hB1; have HS2 := Lib.hid (forms_len (x := x) HOL.out hk HLE.out); have HO2 := Lib.hid (Own.below hown1 ((Below.refl w1.heap.size w1).alloc (Nat.le_refl _) (.cells #[.int .i64 x] 3))); have HR2 := Lib.hid (Row.one (heap_alloc_new w1 (.cells #[.int .i64 x] 3)) HBX.out); have hs3 := own_size (o := .cells #[.int .i64 x] 3) hB1; clear hB1 hgrow1 hown1 hat1 cx hmi) | (at_builtin; refine wpList_append_row (v := .slice A1 L1 c1) (x := .slice (some ⟨w1.heap.size, 0, none⟩) 1 1) rfl (.tmp 34) (.tmp 36) rfl rfl rfl rfl HO2.out HR2.out HS2.out hs3 ?_; intro A2 L2 c2 w2 hown2 hgrow2 hat2; have HG2 := Lib.hid hgrow2; have HOW2 := Lib.hid hown2; clear hgrow2 hown2 hat2))
      go_roundw
      case rel =>
        refine ⟨k + 1, _, _, _, _, by first | rfl | go_num, rfl, by omega, HOW2.out, by have := HOL.out; simp; omega, fun y => ?_, ?_⟩
        · rw [List.mem_append, List.mem_append, List.mem_singleton, HM.out]
          constructor
          · rintro ((e | ⟨j, hj, e⟩) | e)
            · exact ⟨k, by omega, by rw [HMM.out, HX.out, e]⟩
            · exact ⟨j, by omega, e⟩
            · exact ⟨k, by omega, by rw [HMM.out, HX.out, e]⟩
          · rintro ⟨j, hj, e⟩
            by_cases ejk : j = k
            · subst ejk; rw [HMM.out, HX.out] at e; exact .inr e.symm
            · exact .inl (.inr ⟨j, by omega, e⟩)
        · exact Touch.belows (HB1.out.alloc (HB1.out.size) (.cells #[.int .i64 x] 3)) (Touch.of_grown (S := fun i => w.heap.size ≤ i) HG2.out (fun i e => (HO2.out.lt i e).1)) (Nat.le_refl _) (fun i hi => hi)
      case measure => simp [intOf]; omega
    · have hkL : k = len := by omega
      subst hkL
      have hmm : ∀ x, x ∈ os ↔ x ∈ zs := fun x => by
        rw [HM.out]
        constructor
        · rintro ⟨j, hj, e⟩
          rw [← e]; exact nthI_mem (by rw [HL.out]; exact Nat.mod_lt _ (by omega))
        · intro hx
          obtain ⟨i, hi, e⟩ := mem_nthI hx
          rw [HL.out] at hi
          obtain ⟨j, hj, ej⟩ := turn_all (T := T) (by omega) hi
          exact ⟨j, hj, by rw [ej, e]⟩
      have HMM := Lib.hid hmm
      clear hmm
      go_wp2_with fail
      refine (form_any _ 0 _ zs (HR.out.belows HW.out (Nat.le_refl _)) (by rw [HL.out]; omega)).mono ?_
      intro e w1 hf1
      have HF1 := Lib.hid hf1
      have hb1 := HW.out.trans (hf1.1.mono HW.out.size)
      have HB1 := Lib.hid hb1
      have HRO := Lib.hid ((HO.out.row fun y hy => HR.out.bounds y ((HMM.out y).1 hy)).below hf1.1)
      have hres := hf1.2
      clear hf1 hb1
      rcases hres with ⟨rfl, hbad⟩ | ⟨v, f, rfl, hgood, hr1⟩
      · have HBD := Lib.hid hbad
        clear hbad
        go_wp2_with fail
        refine (form_any _ _ _ os HRO.out (by have := HOL.out; omega)).mono ?_
        intro e w2 hf2
        obtain rfl := form_cases_bad hf2 HMM.out HBD.out
        have HB2 := Lib.hid (HB1.out.trans (hf2.1.mono HB1.out.size))
        clear hf2
        go_wp2_with fail
        refine (fixed_any _).mono ?_
        rintro e w3 ⟨rfl, hb3⟩
        have HB3 := Lib.hid (HB2.out.trans (hb3.mono HB2.out.size))
        clear hb3
        go_wp2_with fail
        refine (same_any _ 0 0 _ _ [] [] (row_nil _) (row_nil _)).mono ?_
        rintro e w4 ⟨rfl, q, rfl⟩
        go_wp2
        go_ret
        exact ⟨by simp, below_draws HB3.out q⟩
      · have HGD := Lib.hid hgood
        have HR1 := Lib.hid hr1
        clear hgood hr1
        go_wp2_with fail
        refine (form_any _ _ _ os HRO.out (by have := HOL.out; omega)).mono ?_
        intro e w2 hf2
        obtain ⟨v2, rfl, hr2⟩ := form_cases hf2 HMM.out f HGD.out
        have HB2 := Lib.hid (HB1.out.trans (hf2.1.mono HB1.out.size))
        have HRA := Lib.hid (HR1.out.below hf2.1)
        have HRB := Lib.hid hr2
        clear hf2 hr2
        go_wp2_with fail
        refine (fixed_any _).mono ?_
        rintro e w3 ⟨rfl, hb3⟩
        have HB3 := Lib.hid (HB2.out.trans (hb3.mono HB2.out.size))
        have HRA3 := Lib.hid (HRA.out.below hb3)
        have HRB3 := Lib.hid (HRB.out.below hb3)
        clear hb3
        go_wp2_with fail
        refine (same_any _ _ _ _ _ f f HRA3.out HRB3.out).mono ?_
        rintro e w4 ⟨rfl, q, rfl⟩
        go_wp2
        go_ret
        exact ⟨by simp, below_draws HB3.out q⟩

end Go.Proofs.Ytiomocmceccmbaa.Cn
