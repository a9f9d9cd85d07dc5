/- The virtual names that a graph needs, sorted, each once. -/
import Derived.Test.YtaahdhpljlkfjaaGreatZg41
import Derived.Test.YtaahdhpljlkfjaaGreatZg33
namespace Go.Proofs.YtaahdhpljlkfjaaGreat.Rc
open Go.RowKit Go.Lib Go.Sort

def addAllN (x : Rec) (l ns : List ByteArray) : List ByteArray := ns.foldl (addN x) l
def depNames (x : Rec) (n : Node) : List ByteArray := if isIn x n then ((pkN x n).deps.filter fun d => holdsB n d.b).map fun d => d.a.name else []
def rootsN (x : Rec) (q : List Root) : List ByteArray := addAllN x [] (q.map fun r => r.spec.name)
def nodesN (x : Rec) (l : List ByteArray) (g : List Node) : List ByteArray := g.foldl (fun l n => addAllN x l (depNames x n)) l
theorem addAllN_snoc (x : Rec) (l ns : List ByteArray) (s : ByteArray) : addAllN x l (ns ++ [s]) = addN x (addAllN x l ns) s := by unfold addAllN; rw [List.foldl_append]; rfl
theorem nodesN_snoc (x : Rec) (l : List ByteArray) {g : List Node} {k : Nat} (hk : k < g.length) : nodesN x l (g.take (k + 1)) = addAllN x (nodesN x l (g.take k)) (depNames x (nth g k)) := by
  unfold nodesN; rw [take_snoc hk, List.foldl_append]; rfl
theorem rootsN_snoc (x : Rec) {q : List Root} {k : Nat} (hk : k < q.length) : rootsN x (q.take (k + 1)) = addN x (rootsN x (q.take k)) (nth q k).spec.name := by
  unfold rootsN; rw [take_snoc hk, List.map_append]; exact addAllN_snoc x [] _ _
theorem depK_yes {ds : List Two} {n : Node} {k : Nat} (hk : k < ds.length) (h : holdsB n (nth ds k).b = true) : ((ds.take (k + 1)).filter fun d => holdsB n d.b).map (fun d => d.a.name) = (((ds.take k).filter fun d => holdsB n d.b).map fun d => d.a.name) ++ [(nth ds k).a.name] := by
  rw [filter_snoc hk, h, if_pos rfl, List.map_append]; rfl
theorem depK_no {ds : List Two} {n : Node} {k : Nat} (hk : k < ds.length) (h : holdsB n (nth ds k).b = false) : ((ds.take (k + 1)).filter fun d => holdsB n d.b) = ((ds.take k).filter fun d => holdsB n d.b) := by
  rw [filter_snoc hk, h]; simp
theorem addN_len (x : Rec) (l : List ByteArray) (s : ByteArray) : (addN x l s).length ≤ l.length + 1 := by unfold addN; split <;> simp
theorem addAllN_len (x : Rec) : ∀ (ns l : List ByteArray), (addAllN x l ns).length ≤ l.length + ns.length
  | [], l => Nat.le_refl _
  | s :: ns, l => by
    have h1 := addAllN_len x ns (addN x l s)
    have h2 := addN_len x l s
    show (addAllN x (addN x l s) ns).length ≤ _
    rw [List.length_cons]; omega
theorem depNames_len {x : Rec} (h : RecSmall x) (n : Node) : (depNames x n).length ≤ 40 := by
  unfold depNames
  split
  · next hi =>
    rw [List.length_map]
    exact Nat.le_trans (List.length_filter_le _ _) (h.each _ (pk_mem hi)).2.2.2.1
  · exact Nat.zero_le _
theorem nodesN_len {x : Rec} (h : RecSmall x) : ∀ (g : List Node) (l : List ByteArray), (nodesN x l g).length ≤ l.length + 40 * g.length
  | [], l => Nat.le_refl _
  | n :: g, l => by
    have h1 := nodesN_len h g (addAllN x l (depNames x n))
    have h2 := addAllN_len x (depNames x n) l
    have h3 := depNames_len h n
    show (nodesN x (addAllN x l (depNames x n)) g).length ≤ _
    rw [List.length_cons]; omega
theorem rootsN_len (x : Rec) (q : List Root) : (rootsN x q).length ≤ q.length := by
  have := addAllN_len x (q.map fun r => r.spec.name) []
  rw [List.length_map] at this
  unfold rootsN
  simpa using this
theorem addN_mem {x : Rec} {l : List ByteArray} {s t : ByteArray} : t ∈ addN x l s ↔ t ∈ l ∨ (t = s ∧ virtB x t = true) := by
  unfold addN
  split
  · next h =>
    rw [List.mem_append, List.mem_singleton]
    constructor
    · rintro (h1 | rfl)
      · exact .inl h1
      · exact .inr ⟨rfl, h⟩
    · rintro (h1 | ⟨h1, _⟩)
      · exact .inl h1
      · exact .inr h1
  · next h =>
    constructor
    · exact .inl
    · rintro (h1 | ⟨rfl, h2⟩)
      · exact h1
      · exact absurd h2 h
theorem addAllN_mem {x : Rec} {t : ByteArray} : ∀ {ns l : List ByteArray}, t ∈ addAllN x l ns ↔ t ∈ l ∨ (t ∈ ns ∧ virtB x t = true)
  | [], l => by unfold addAllN; simp
  | s :: ns, l => by
    show t ∈ addAllN x (addN x l s) ns ↔ _
    rw [addAllN_mem, addN_mem, List.mem_cons]
    constructor
    · rintro ((h | ⟨h, h2⟩) | ⟨h, h2⟩)
      · exact .inl h
      · exact .inr ⟨.inl h, h2⟩
      · exact .inr ⟨.inr h, h2⟩
    · rintro (h | ⟨h | h, h2⟩)
      · exact .inl (.inl h)
      · exact .inl (.inr ⟨h, h2⟩)
      · exact .inr ⟨h, h2⟩
theorem nodesN_mem {x : Rec} {t : ByteArray} : ∀ {g : List Node} {l : List ByteArray}, t ∈ nodesN x l g ↔ t ∈ l ∨ ((∃ n ∈ g, t ∈ depNames x n) ∧ virtB x t = true)
  | [], l => by unfold nodesN; simp
  | n :: g, l => by
    show t ∈ nodesN x (addAllN x l (depNames x n)) g ↔ _
    rw [nodesN_mem, addAllN_mem]
    constructor
    · rintro ((h | ⟨h, h2⟩) | ⟨⟨m, hm, h⟩, h2⟩)
      · exact .inl h
      · exact .inr ⟨⟨n, by simp, h⟩, h2⟩
      · exact .inr ⟨⟨m, by simp [hm], h⟩, h2⟩
    · rintro (h | ⟨⟨m, hm, h⟩, h2⟩)
      · exact .inl (.inl h)
      · rcases List.mem_cons.1 hm with rfl | hm
        · exact .inl (.inr ⟨h, h2⟩)
        · exact .inr ⟨⟨m, hm, h⟩, h2⟩
theorem depNames_mem {x : Rec} {n : Node} {t : ByteArray} : t ∈ depNames x n ↔ wantsB x t n = true := by
  unfold depNames wantsB
  cases hi : isIn x n with
  | false => simp
  | true =>
    rw [if_pos rfl, Bool.true_and, List.mem_map, List.any_eq_true]
    constructor
    · rintro ⟨d, hd, rfl⟩
      rw [List.mem_filter] at hd
      exact ⟨d, hd.1, by unfold wantB; rw [hd.2, Bool.and_true]; exact Va.eqS_iff.2 rfl⟩
    · rintro ⟨d, hd, h⟩
      unfold wantB at h
      rw [Bool.and_eq_true] at h
      exact ⟨d, List.mem_filter.2 ⟨hd, h.2⟩, Va.eqS_iff.1 h.1⟩
theorem names_mem {x : Rec} {q : List Root} {g : List Node} {t : ByteArray} : t ∈ nodesN x (rootsN x q) g ↔ goodV x q g t = true := by
  unfold goodV neededB
  rw [nodesN_mem, Bool.and_eq_true, Bool.or_eq_true, List.any_eq_true, List.any_eq_true]
  unfold rootsN
  rw [addAllN_mem, List.mem_map]
  constructor
  · rintro ((h | ⟨⟨r, hr, rfl⟩, h2⟩) | ⟨⟨n, hn, h⟩, h2⟩)
    · cases h
    · exact ⟨h2, .inl ⟨r, hr, Va.eqS_iff.2 rfl⟩⟩
    · exact ⟨h2, .inr ⟨n, hn, depNames_mem.1 h⟩⟩
  · rintro ⟨h2, ⟨r, hr, h⟩ | ⟨n, hn, h⟩⟩
    · exact .inl (.inr ⟨⟨r, hr, Va.eqS_iff.1 h⟩, h2⟩)
    · exact .inr ⟨⟨n, hn, depNames_mem.2 h⟩, h2⟩
theorem virt_size {w : World} {v1 v2 : Value} {x : Rec} {s : ByteArray} (h : IsRec w v1 v2 x) (hv : virtB x s = true) : s.size ≤ maxLen := by
  unfold virtB at hv
  rw [Bool.and_eq_true] at hv
  obtain ⟨p, hp, hs⟩ := List.any_eq_true.1 (show (x.pkgs.any fun p => provIs p s) = true from hv.2)
  obtain ⟨i, hi, rfl⟩ := List.mem_iff_getElem.1 hp
  obtain ⟨A, L, c, e⟩ := h.pkgs.sl
  have hr := h.pkgs
  rw [e] at hr
  obtain ⟨b, off, t1, t2, t3, t4, t5, t6, -, -, hpk, -⟩ := pkg_at hr (j := i) (by rw [hr.len]; exact hi)
  rw [nth_lt hi] at hpk
  have hm := hasS_iff.1 (show hasS (x.pkgs[i]).prov s = true from hs)
  obtain ⟨j, hj, rfl⟩ := List.mem_iff_getElem.1 hm
  obtain ⟨A3, L3, c3, e3⟩ := hpk.prov.sl
  have hr3 := hpk.prov
  rw [e3] at hr3
  obtain ⟨_, _, _, _, hz, _⟩ := str_at hr3 (j := j) (by rw [hr3.len]; exact hj)
  rw [nth_lt hj] at hz
  exact hz
def namesN (x : Rec) (q : List Root) (g : List Node) : List ByteArray := onces (nodesN x (rootsN x q) g)
theorem namesN_mem {x : Rec} {q : List Root} {g : List Node} (t : ByteArray) : t ∈ namesN x q g ↔ goodV x q g t = true := onces_mem.trans names_mem
def GivesN (l : List ByteArray) (w : World) (e : Ending) (w' : World) : Prop := ∃ A L c, e = .returned (.slice A L c) ∧ RowD strK w' (.slice A L c) l ∧ Below w.heap.size w w'
set_option maxRecDepth 100000 in
set_option maxHeartbeats 3200000 in
theorem needed_is (w : World) (v1 v2 vq vg : Value) (x : Rec) (q : List Root) (g : List Node) (h : IsRec w v1 v2 x) (hq : RowD rootK w vq q) (hg : RowD nodeK w vg g) (ht : Tame x g) (hl : q.length ≤ 40) :
    Calls Tryz.prog 51 #[.agg #[v1, v2], .agg #[vq], .agg #[vg]] w (GivesN (namesN x q g) w) := by
  obtain ⟨A1, L1, c1, A2, L2, c2, rfl, rfl, hL1, hL2, hc1, hm1, hc2, hm2⟩ := rec_box h
  obtain ⟨A3, L3, c3, rfl⟩ := hq.sl
  obtain ⟨A4, L4, c4, rfl⟩ := hg.sl
  have HX0 := Lib.hid ((Bxs.three w #[.slice A1 L1 c1, .slice A2 L2 c2] 25 #[.slice A3 L3 c3] 28 #[.slice A4 L4 c4] 31).push (by simp) #[.slice none 0 0] 47)
  have HR := Lib.hid h
  have HQ := Lib.hid hq
  have HG := Lib.hid hg
  have HL1 := Lib.hid hL1
  have HL3 := Lib.hid hq.len
  have HL4 := Lib.hid hg.len
  have hcq := hq.cap
  have hcg := hg.cap
  have HTM := Lib.hid ht
  have HL40 := Lib.hid hl
  clear h hL1 hL2 hq hg ht hl
  go_enter Tryz.func51, Tryz.ntmps51
  have x3 := HX0.out.get 1 0 (v := .slice A3 L3 c3) rfl rfl
  go_wp2
  simp only [Nat.add_assoc, Nat.reduceAdd]
  clear x3
  go_loopw [20] (fun j wr => ∃ (k : Nat) (A : Option Addr) (L c : Nat), k ≤ L3 ∧ j = .int .i64 k ∧ Hid (Bxs w wr [(#[.slice A1 L1 c1, .slice A2 L2 c2], 25), (#[.slice A3 L3 c3], 28), (#[.slice A4 L4 c4], 31), (#[.slice A L c], 47)]) ∧ Hid (OwnS wr w.heap.size (.slice A L c) (rootsN x (q.take k)))) (fun j _ => L3 - (RowKit.intOf j).toNat)
  case atStart => exact ⟨0, none, 0, 0, Nat.zero_le _, rfl, HX0, Lib.hid (OwnV.nil _ _)⟩
  case round =>
    clear HX0
    obtain ⟨k, A, L, c, hk, rfl, HX, HO⟩ := hrel
    by_cases hlt : k < L3
    · obtain ⟨bb, off, u1, u2, rfl, hbb, hs, -, p0, p1, p2, p3⟩ := root_at (HQ.out.below HX.out.bel (Nat.le_refl _)) hlt
      have hkl : k < q.length := by rw [← HL3.out]; exact hlt
      have HSN := Lib.hid (rootsN_snoc x hkl)
      have HLEN := Lib.hid (show (rootsN x (q.take k)).length ≤ 100000 by
        have h1 := rootsN_len x (q.take k)
        have h2 := HL40.out
        rw [List.length_take] at h1; omega)
      obtain ⟨r, hr⟩ : ∃ r, nth q k = r := ⟨_, rfl⟩
      rw [hr] at hs p0 p3 HSN
      obtain ⟨B1, M1, d1, rfl⟩ := hs.spans.sl
      obtain ⟨B2, M2, d2, rfl⟩ := hs.sets.sl
      have hbl := below_alloc' wr (.cells #[.string r.spec.name, .slice B1 M1 d1, .slice B2 M2 d2, .int .i64 r.line] 61)
      generalize hw1 : wr.alloc (.cells #[.string r.spec.name, .slice B1 M1 d1, .slice B2 M2 d2, .int .i64 r.line] 61) = w1 at hbl
      have HW1 := Lib.hid hw1
      have HX1 := Lib.hid (HX.out.step hbl)
      have HO1 := Lib.hid (HO.out.below hbl)
      have g0 : (0 : Int) ≤ (k : Int) := by omega
      have g1 : (k : Int) < (L3 : Int) := by omega
      clear hr hkl hs hbl hw1
      go_wp2_with fail
      rw [HW1.out]
      refine (name_is w _ _ _ _ _ A L c x r.spec.name _ _ _ HX1.out HO1.out HR.out HLEN.out).mono ?_
      rintro e w2 ⟨rfl, A', L', c', hx2, ho2, -⟩
      have HX2 := Lib.hid hx2
      have HO2 := Lib.hid ho2
      clear hx2 ho2 p0 p1 p2 p3
      go_wp2
      go_roundw
      case rel => exact ⟨k + 1, A', L', c', by omega, by go_num, HX2, Lib.hid (by rw [HSN.out]; exact HO2.out)⟩
      case measure => simp [RowKit.intOf]; omega
    · obtain ⟨l0, hl0⟩ : ∃ l, rootsN x q = l := ⟨_, rfl⟩
      have HL0 := Lib.hid hl0
      have HO0 := Lib.hid (show OwnS wr w.heap.size (.slice A L c) (nodesN x l0 (g.take 0)) by
        have := HO.out
        rw [show k = q.length by rw [← HL3.out]; omega, List.take_length, hl0] at this
        exact this)
      have HLL := Lib.hid (show l0.length ≤ 40 by have h1 := rootsN_len x q; rw [hl0] at h1; have := HL40.out; omega)
      have x3 := HX.out.get 2 0 (v := .slice A4 L4 c4) rfl rfl
      clear hl0 HO
      go_wp2
      clear x3
      go_loopw [32] (fun j wr => ∃ (i : Nat) (A : Option Addr) (L c : Nat), i ≤ L4 ∧ j = .int .i64 i ∧ Hid (Bxs w wr [(#[.slice A1 L1 c1, .slice A2 L2 c2], 25), (#[.slice A3 L3 c3], 28), (#[.slice A4 L4 c4], 31), (#[.slice A L c], 47)]) ∧ Hid (OwnS wr w.heap.size (.slice A L c) (nodesN x l0 (g.take i)))) (fun j _ => L4 - (RowKit.intOf j).toNat)
      case atStart => exact ⟨0, A, L, c, Nat.zero_le _, rfl, HX, HO0⟩
      case round =>
        clear HX HO0
        obtain ⟨i, A, L, c, hi, rfl, HX, HO⟩ := hrel
        by_cases hlt : i < L4
        · obtain ⟨bb, off, u1, u2, rfl, hbb, hn, p0, p1, p2, p3⟩ := node_at HG.out hlt
          have hil : i < g.length := by rw [← HL4.out]; exact hlt
          have HSN := Lib.hid (nodesN_snoc x l0 hil)
          have HLEN := Lib.hid (show (nodesN x l0 (g.take i)).length ≤ 1240 by
            have h1 := nodesN_len HTM.out.small (g.take i) l0
            have h2 := (HTM.out.take i).len
            have h3 := HLL.out
            omega)
          obtain ⟨n, hnn⟩ : ∃ n, nth g i = n := ⟨_, rfl⟩
          rw [hnn] at hn p0 p1 HSN
          obtain ⟨A5, L5, c5, rfl⟩ := hn.sets.sl
          obtain ⟨A6, L6, c6, rfl⟩ := hn.needs.sl
          have HNW := Lib.hid hn
          have p0 := (HX.out.bel.cell (p := ⟨bb, off + i * 4, none⟩) hbb).trans p0
          have p1 := (HX.out.bel.cell (p := ⟨bb, off + i * 4 + 1, none⟩) hbb).trans p1
          have p2 := (HX.out.bel.cell (p := ⟨bb, off + i * 4 + 2, none⟩) hbb).trans p2
          have p3 := (HX.out.bel.cell (p := ⟨bb, off + i * 4 + 3, none⟩) hbb).trans p3
          have x0 := cell_alloc_l (.cells #[.string n.name, .string n.ver, .slice A5 L5 c5, .slice A6 L6 c6] 63) (HX.out.get 0 0 (v := .slice A1 L1 c1) rfl rfl)
          have x1 := cell_alloc_l (.cells #[.string n.name, .string n.ver, .slice A5 L5 c5, .slice A6 L6 c6] 63) (HX.out.get 0 1 (v := .slice A2 L2 c2) rfl rfl)
          rw [Nat.add_zero] at x0 x1
          have hbl := below_alloc' wr (.cells #[.string n.name, .string n.ver, .slice A5 L5 c5, .slice A6 L6 c6] 63)
          have hnew := heap_alloc_new wr (.cells #[.string n.name, .string n.ver, .slice A5 L5 c5, .slice A6 L6 c6] 63)
          generalize hw1 : wr.alloc (.cells #[.string n.name, .string n.ver, .slice A5 L5 c5, .slice A6 L6 c6] 63) = w1 at hbl hnew
          have HW1 := Lib.hid hw1
          have HX1 := Lib.hid (HX.out.step hbl)
          have HO1 := Lib.hid (HO.out.below hbl)
          obtain ⟨b9, hb9⟩ : ∃ b9, wr.heap.size = b9 := ⟨_, rfl⟩
          have HE9 := Lib.hid hb9
          have HN1 := Lib.hid (show w1.heap[b9]? = some (.cells #[.string n.name, .string n.ver, .slice A5 L5 c5, .slice A6 L6 c6] 63 (0, 0)) by rw [← hb9]; exact hnew)
          obtain ⟨z, hz⟩ : ∃ z, findR x n.name = z := ⟨_, rfl⟩
          have HZ := Lib.hid hz
          have g0 : (0 : Int) ≤ (i : Int) := by omega
          have g1 : (i : Int) < (L4 : Int) := by omega
          clear hn hnn hil hw1 hb9 hbl hnew hz
          go_wp2_with fail
          rw [HW1.out, HE9.out]
          refine (find_is _ _ _ x n.name (HR.out.below HX1.out.bel (Nat.le_refl _)) z HZ.out).mono ?_
          rintro e w2 ⟨rfl, hb2⟩
          have HX2 := Lib.hid (HX1.out.step hb2)
          have HO2 := Lib.hid (HO1.out.below hb2)
          have HN2 := Lib.hid (heap_below HN1.out hb2)
          clear hb2 p0 p1 p2 p3 x0 x1 HX HX1 HO1 HN1
          by_cases hz0 : z < 0
          · have HV := Lib.hid (show nodesN x l0 (g.take (i + 1)) = nodesN x l0 (g.take i) by
              rw [HSN.out, show depNames x n = [] by unfold depNames isIn; rw [decide_eq_false (by rw [HZ.out]; omega)]; rfl]; rfl)
            go_wp2
            go_roundw
            case rel => exact ⟨i + 1, A, L, c, by omega, by go_num, HX2, Lib.hid (by rw [HV.out]; exact HO2.out)⟩
            case measure => simp [RowKit.intOf]; omega
          · obtain ⟨m, rfl⟩ : ∃ m : Nat, z = m := ⟨z.toNat, by omega⟩
            have hml := find_lt HZ.out
            have hmm1 : m < L1 := by rw [HL1.out]; exact hml
            obtain ⟨b1, o1, t1, t2, t3, t4, t5, t6, rfl, hb1, hpk, -, -, -, -, -, d5, -, -⟩ := pkg_at HR.out.pkgs hmm1
            obtain ⟨A7, L7, c7, rfl⟩ := hpk.deps.sl
            have HD := Lib.hid hpk.deps
            have HDL := Lib.hid hpk.deps.len
            have hcd := hpk.deps.cap
            have HDN := Lib.hid (show depNames x n = ((nth x.pkgs m).deps.filter fun d => holdsB n d.b).map fun d => d.a.name by
              unfold depNames isIn pkN; rw [HZ.out, decide_eq_true (by omega), if_pos rfl, Int.toNat_natCast])
            have HD40 := Lib.hid (HTM.out.small.each _ (nth_mem hml)).2.2.2.1
            obtain ⟨ds, hds⟩ : ∃ ds, (nth x.pkgs m).deps = ds := ⟨_, rfl⟩
            rw [hds] at HD HDL HDN HD40
            have x0 := HX2.out.get 0 0 (v := .slice (some ⟨b1, o1, none⟩) L1 c1) rfl rfl
            rw [Nat.add_zero] at x0
            have m0 : (0 : Int) ≤ (m : Int) := by omega
            have m1 : (m : Int) < (L1 : Int) := by omega
            clear hpk hds hml
            have d5 := (HX2.out.bel.cell (p := ⟨b1, o1 + m * 8 + 5, none⟩) hb1).trans d5
            obtain ⟨li, hli⟩ : ∃ li, nodesN x l0 (g.take i) = li := ⟨_, rfl⟩
            rw [hli] at HO2 HLEN HSN
            clear hli HO
            go_wp2
            clear d5 x0
            go_loopw [49] (fun j wr => ∃ (k : Nat) (A : Option Addr) (L c : Nat), k ≤ L7 ∧ j = .int .i64 k ∧ Hid (Bxs w wr [(#[.slice (some ⟨b1, o1, none⟩) L1 c1, .slice A2 L2 c2], 25), (#[.slice A3 L3 c3], 28), (#[.slice (some ⟨bb, off, none⟩) L4 c4], 31), (#[.slice A L c], 47)]) ∧ Hid (OwnS wr w.heap.size (.slice A L c) (addAllN x li (((ds.take k).filter fun d => holdsB n d.b).map fun d => d.a.name))) ∧ Hid (wr.heap[b9]? = some (.cells #[.string n.name, .string n.ver, .slice A5 L5 c5, .slice A6 L6 c6] 63 (0, 0)))) (fun j _ => L7 - (RowKit.intOf j).toNat)
            case atStart => exact ⟨0, A, L, c, Nat.zero_le _, rfl, HX2, HO2, HN2⟩
            case round =>
              clear HX2 HO2 HN2
              obtain ⟨k, A, L, c, hk, rfl, HX, HO, HNB⟩ := hrel
              by_cases hlt3 : k < L7
              · obtain ⟨b2, o2, s1, s2, s3, s4, rfl, hb2, hsa, hsb, -, e0, e1, e2, e3, e4, e5, e6⟩ := two_at HD.out hlt3
                have hkl : k < ds.length := by rw [← HDL.out]; exact hlt3
                have HY1 := Lib.hid (fun h => depK_yes (n := n) hkl h)
                have HY0 := Lib.hid (fun h => depK_no (n := n) hkl h)
                have HLK := Lib.hid (show (addAllN x li (((ds.take k).filter fun d => holdsB n d.b).map fun d => d.a.name)).length ≤ 100000 by
                  have h1 := addAllN_len x (((ds.take k).filter fun d => holdsB n d.b).map fun d => d.a.name) li
                  have h2 := List.length_filter_le (fun d => holdsB n d.b) (ds.take k)
                  rw [List.length_map] at h1
                  rw [List.length_take] at h2
                  have h3 := HD40.out
                  have h4 := HLEN.out
                  omega)
                obtain ⟨t, ht⟩ : ∃ t, nth ds k = t := ⟨_, rfl⟩
                rw [ht] at hsa hsb e0 e3 e6 HY1 HY0
                obtain ⟨B1, M1, d1, rfl⟩ := hsa.spans.sl
                obtain ⟨B2, M2, d2, rfl⟩ := hsa.sets.sl
                obtain ⟨B3, M3, d3, rfl⟩ := hsb.spans.sl
                obtain ⟨B4, M4, d4, rfl⟩ := hsb.sets.sl
                have HSB := Lib.hid hsb
                have e0 := (HX.out.bel.cell (p := ⟨b2, o2 + k * 7, none⟩) hb2).trans e0
                have e1 := (HX.out.bel.cell (p := ⟨b2, o2 + k * 7 + 1, none⟩) hb2).trans e1
                have e2 := (HX.out.bel.cell (p := ⟨b2, o2 + k * 7 + 2, none⟩) hb2).trans e2
                have e3 := (HX.out.bel.cell (p := ⟨b2, o2 + k * 7 + 3, none⟩) hb2).trans e3
                have e4 := (HX.out.bel.cell (p := ⟨b2, o2 + k * 7 + 4, none⟩) hb2).trans e4
                have e5 := (HX.out.bel.cell (p := ⟨b2, o2 + k * 7 + 5, none⟩) hb2).trans e5
                have e6 := (HX.out.bel.cell (p := ⟨b2, o2 + k * 7 + 6, none⟩) hb2).trans e6
                have n0 := cell_alloc_l (.cells #[.string t.a.name, .slice B1 M1 d1, .slice B2 M2 d2, .string t.b.name, .slice B3 M3 d3, .slice B4 M4 d4, .int .i64 t.line] 90) (cells_get HNB.out 0 (v := .string n.name) rfl)
                have n1 := cell_alloc_l (.cells #[.string t.a.name, .slice B1 M1 d1, .slice B2 M2 d2, .string t.b.name, .slice B3 M3 d3, .slice B4 M4 d4, .int .i64 t.line] 90) (cells_get HNB.out 1 (v := .string n.ver) rfl)
                have n2 := cell_alloc_l (.cells #[.string t.a.name, .slice B1 M1 d1, .slice B2 M2 d2, .string t.b.name, .slice B3 M3 d3, .slice B4 M4 d4, .int .i64 t.line] 90) (cells_get HNB.out 2 (v := .slice A5 L5 c5) rfl)
                have n3 := cell_alloc_l (.cells #[.string t.a.name, .slice B1 M1 d1, .slice B2 M2 d2, .string t.b.name, .slice B3 M3 d3, .slice B4 M4 d4, .int .i64 t.line] 90) (cells_get HNB.out 3 (v := .slice A6 L6 c6) rfl)
                have hbl := below_alloc' wr (.cells #[.string t.a.name, .slice B1 M1 d1, .slice B2 M2 d2, .string t.b.name, .slice B3 M3 d3, .slice B4 M4 d4, .int .i64 t.line] 90)
                have hnew := heap_alloc_new wr (.cells #[.string t.a.name, .slice B1 M1 d1, .slice B2 M2 d2, .string t.b.name, .slice B3 M3 d3, .slice B4 M4 d4, .int .i64 t.line] 90)
                generalize hw1 : wr.alloc (.cells #[.string t.a.name, .slice B1 M1 d1, .slice B2 M2 d2, .string t.b.name, .slice B3 M3 d3, .slice B4 M4 d4, .int .i64 t.line] 90) = w1 at hbl hnew
                have HW1 := Lib.hid hw1
                have HX1 := Lib.hid (HX.out.step hbl)
                have HO1 := Lib.hid (HO.out.below hbl)
                have HNB1 := Lib.hid (heap_below HNB.out hbl)
                obtain ⟨b15, hb15⟩ : ∃ b15, wr.heap.size = b15 := ⟨_, rfl⟩
                have HE15 := Lib.hid hb15
                have HD1 := Lib.hid (show w1.heap[b15]? = some (.cells #[.string t.a.name, .slice B1 M1 d1, .slice B2 M2 d2, .string t.b.name, .slice B3 M3 d3, .slice B4 M4 d4, .int .i64 t.line] 90 (0, 0)) by rw [← hb15]; exact hnew)
                obtain ⟨y, hy⟩ : ∃ y, holdsB n t.b = y := ⟨_, rfl⟩
                have HY := Lib.hid hy
                have k0 : (0 : Int) ≤ (k : Int) := by omega
                have k1 : (k : Int) < (L7 : Int) := by omega
                clear ht hkl hsa hsb hw1 hb15 hbl hnew hy HX HO HNB
                go_wp2_with fail
                rw [HW1.out, HE15.out]
                refine (holds_is _ _ _ _ _ n t.b (HNW.out.below HX1.out.bel (Nat.le_refl _)) (HSB.out.below HX1.out.bel (Nat.le_refl _)) y HY.out).mono ?_
                rintro e w2 ⟨rfl, hb2'⟩
                have HX2 := Lib.hid (HX1.out.step hb2')
                have HO2 := Lib.hid (HO1.out.below hb2')
                have HNB2 := Lib.hid (heap_below HNB1.out hb2')
                have HD2 := Lib.hid (heap_below HD1.out hb2')
                clear hb2' e0 e1 e2 e3 e4 e5 e6 n0 n1 n2 n3 HX1 HO1 HNB1 HD1
                cases y with
                | false =>
                  have HV := Lib.hid (HY0.out HY.out)
                  go_wp2
                  go_roundw
                  case rel => exact ⟨k + 1, A, L, c, by omega, by go_num, HX2, Lib.hid (by rw [HV.out]; exact HO2.out), HNB2⟩
                  case measure => simp [RowKit.intOf]; omega
                | true =>
                  have HV := Lib.hid (show addAllN x li (((ds.take (k + 1)).filter fun d => holdsB n d.b).map fun d => d.a.name) = addN x (addAllN x li (((ds.take k).filter fun d => holdsB n d.b).map fun d => d.a.name)) t.a.name by rw [HY1.out HY.out, addAllN_snoc])
                  have f0 := cells_get HD2.out 0 (v := .string t.a.name) rfl
                  have f1 := cells_get HD2.out 1 (v := .slice B1 M1 d1) rfl
                  have f2 := cells_get HD2.out 2 (v := .slice B2 M2 d2) rfl
                  go_wp2_with fail
                  refine (name_is w _ _ _ _ _ A L c x t.a.name _ _ _ HX2.out HO2.out HR.out HLK.out).mono ?_
                  rintro e w3 ⟨rfl, A', L', c', hx3, ho3, hk3⟩
                  have HX3 := Lib.hid hx3
                  have HO3 := Lib.hid ho3
                  have HNB3 := Lib.hid (hk3 b9 _ _ (by decide) (by decide) HNB2.out)
                  clear hx3 ho3 hk3 f0 f1 f2 HX2 HO2 HNB2 HD2
                  go_wp2
                  go_roundw
                  case rel => exact ⟨k + 1, A', L', c', by omega, by go_num, HX3, Lib.hid (by rw [HV.out]; exact HO3.out), HNB3⟩
                  case measure => simp [RowKit.intOf]; omega
              · have HV := Lib.hid (show nodesN x l0 (g.take (i + 1)) = addAllN x li (((ds.take k).filter fun d => holdsB n d.b).map fun d => d.a.name) by
                  rw [HSN.out, HDN.out, show k = ds.length by rw [← HDL.out]; omega, List.take_length])
                go_wp2
                go_roundw
                case rel => exact ⟨i + 1, A, L, c, by omega, by go_num, HX, Lib.hid (by rw [HV.out]; exact HO.out)⟩
                case measure => simp [RowKit.intOf]; omega
        · have HOF := Lib.hid (show OwnS wr w.heap.size (.slice A L c) (nodesN x (rootsN x q) g) by
            have := HO.out
            rw [show i = g.length by rw [← HL4.out]; omega, List.take_length, ← HL0.out] at this
            exact this)
          have HLF := Lib.hid (show (nodesN x (rootsN x q) g).length ≤ 200000 by
            have h1 := nodesN_len HTM.out.small g (rootsN x q)
            have h2 := HTM.out.len
            have h3 := HLL.out
            rw [← HL0.out] at h3
            omega)
          have HSZ := Lib.hid (show ∀ s ∈ nodesN x (rootsN x q) g, s.size ≤ maxLen from fun s hs => by
            have := names_mem.1 hs
            unfold goodV at this
            rw [Bool.and_eq_true] at this
            exact virt_size HR.out this.1)
          have y0 := HX.out.get 3 0 (v := .slice A L c) rfl rfl
          clear HO
          go_wp2_with fail
          refine (sort_own _ w.heap.size A L c _ HOF.out HLF.out).mono ?_
          rintro e w2 ⟨rfl, ho2, hg2⟩
          have HX2 := Lib.hid (HX.out.grown HOF.out (by simp) hg2)
          have HO2 := Lib.hid ho2
          have y1 := HX2.out.get 3 0 (v := .slice A L c) rfl rfl
          clear ho2 hg2 y0
          go_wp2_with fail
          refine (compact_own _ w.heap.size A L c _ HO2.out HLF.out HSZ.out).mono ?_
          rintro e w3 ⟨A', L', c', rfl, hr3, hg3⟩
          have HR3 := Lib.hid hr3
          have HB3 := Lib.hid (HX2.out.bel.grown hg3 HX2.out.bel.size (fun k hk => (HO2.out.lt k hk).1))
          clear hr3 hg3 y1
          go_wp2
          go_ret
          exact ⟨A', L', c', rfl, HR3.out, HB3.out⟩
end Go.Proofs.YtaahdhpljlkfjaaGreat.Rc
