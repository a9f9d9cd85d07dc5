/- Texts of the call's own, sorted, and each but once. -/
import Derived.Test.YtaahdhpljlkfjaaGreatZg31
import Derived.Test.YtaahdhpljlkfjaaGreatZg38
import Derived.Test.YtaahdhpljlkfjaaGreatZg39
import Derived.Sort.OwnSorted
import Derived.Test.YtaahdhpljlkfjaaGreatZg32
namespace Go.Proofs.YtaahdhpljlkfjaaGreat.Rc
open Go.RowKit Go.Lib

section
variable {α : Type} [Inhabited α] [DecidableEq α] {R : α → α → Prop}
theorem compact_upR {d : Array α} (tr : ∀ {a b c : α}, R a b → R b c → R a c) (hs : ∀ i j, i < j → j < d.size → d[i]! = d[j]! ∨ R d[i]! d[j]!) : ∀ m, m ≤ d.size → (∀ x, x ∈ compactUpTo d m ↔ ∃ j, j < m ∧ d[j]! = x) ∧ (compactUpTo d m).Pairwise R
  | 0, _ => by
    refine ⟨fun x => ?_, by simp [compactUpTo]⟩
    simp [compactUpTo]
  | m + 1, hm => by
    obtain ⟨h1, h2⟩ := compact_upR tr hs m (by omega)
    rw [compactUpTo_succ]
    by_cases hk : keeps d m = true
    · rw [if_pos hk]
      refine ⟨fun x => ?_, ?_⟩
      · rw [List.mem_append, h1, List.mem_singleton]
        constructor
        · rintro (⟨j, hj, e⟩ | e)
          · exact ⟨j, by omega, e⟩
          · exact ⟨m, by omega, e.symm⟩
        · rintro ⟨j, hj, e⟩
          by_cases ej : j = m
          · subst ej; exact .inr e.symm
          · exact .inl ⟨j, by omega, e⟩
      · rw [List.pairwise_append]
        refine ⟨h2, by simp, fun a ha b hb => ?_⟩
        rw [List.mem_singleton] at hb
        subst hb
        obtain ⟨j, hj, rfl⟩ := (h1 a).1 ha
        have hne : d[m]! ≠ d[m - 1]! := by
          simp [keeps] at hk; rcases hk with hk | hk
          · omega
          · exact hk
        have hl : R d[m - 1]! d[m]! := by
          rcases hs (m - 1) m (by omega) (by omega) with e | e
          · exact absurd e.symm hne
          · exact e
        by_cases ej : j = m - 1
        · rw [ej]; exact hl
        · rcases hs j (m - 1) (by omega) (by omega) with e | e
          · rw [e]; exact hl
          · exact tr e hl
    · rw [if_neg hk, List.append_nil]
      refine ⟨fun x => ?_, h2⟩
      rw [h1]
      constructor
      · rintro ⟨j, hj, e⟩; exact ⟨j, by omega, e⟩
      · rintro ⟨j, hj, e⟩
        by_cases ej : j = m
        · subst ej
          simp [keeps] at hk
          exact ⟨j - 1, by omega, by rw [← hk.2]; exact e⟩
        · exact ⟨j, by omega, e⟩
end
theorem sorted_up {l : List (List UInt8)} (h : l.Pairwise (· ≤ ·)) : (∀ x, x ∈ compact l ↔ x ∈ l) ∧ (compact l).Pairwise (· < ·) := by
  have hg : ∀ (i : Nat) (hi : i < l.length), l.toArray[i]! = l[i] := fun i hi => by simp [hi]
  have h1 := compact_upR (R := (· < ·)) (d := l.toArray) (fun h1 h2 => List.lt_trans h1 h2) (fun i j hij hj => by
    have hj : j < l.length := by simpa using hj
    rw [hg i (by omega), hg j hj]
    have := List.pairwise_iff_getElem.1 h i j (by omega) hj hij
    rcases List.le_iff_lt_or_eq.1 this with e | e
    · exact .inr e
    · exact .inl e) l.length (by simp)
  refine ⟨fun x => ?_, h1.2⟩
  unfold compact
  rw [h1.1, List.mem_iff_getElem]
  constructor
  · rintro ⟨j, hj, e⟩; exact ⟨j, hj, by rw [← hg j hj]; exact e⟩
  · rintro ⟨j, hj, e⟩; exact ⟨j, hj, by rw [hg j hj]; exact e⟩
/-- Texts, sorted, each once. -/
def onces (l : List ByteArray) : List ByteArray := (compact ((l.map (·.data.toList)).mergeSort fun x y => decide (x ≤ y))).map fun b => (⟨b.toArray⟩ : ByteArray)
theorem ba_back (s : ByteArray) : (⟨s.data.toList.toArray⟩ : ByteArray) = s := by cases s; simp
theorem onces_mem {l : List ByteArray} {s : ByteArray} : s ∈ onces l ↔ s ∈ l := by
  have hs : ((l.map (·.data.toList)).mergeSort fun x y => decide (x ≤ y)).Pairwise (· ≤ ·) := by
    refine (List.pairwise_mergeSort (le := fun x y => decide (x ≤ y)) (fun a b c h1 h2 => ?_) (fun a b => ?_) _).imp (fun h => of_decide_eq_true h)
    · exact decide_eq_true (List.le_trans (of_decide_eq_true h1) (of_decide_eq_true h2))
    · rcases List.le_total a b with h | h
      · simp [h]
      · simp [h]
  unfold onces
  rw [List.mem_map]
  constructor
  · rintro ⟨b, hb, rfl⟩
    rw [(sorted_up hs).1, List.mem_mergeSort, List.mem_map] at hb
    obtain ⟨t, ht, rfl⟩ := hb
    rw [ba_back]; exact ht
  · intro h
    refine ⟨s.data.toList, ?_, ba_back s⟩
    rw [(sorted_up hs).1, List.mem_mergeSort, List.mem_map]
    exact ⟨s, h, rfl⟩
theorem onces_nodup (l : List ByteArray) : (onces l).Nodup := by
  have hs : ((l.map (·.data.toList)).mergeSort fun x y => decide (x ≤ y)).Pairwise (· ≤ ·) := by
    refine (List.pairwise_mergeSort (le := fun x y => decide (x ≤ y)) (fun a b c h1 h2 => ?_) (fun a b => ?_) _).imp (fun h => of_decide_eq_true h)
    · exact decide_eq_true (List.le_trans (of_decide_eq_true h1) (of_decide_eq_true h2))
    · rcases List.le_total a b with h | h
      · simp [h]
      · simp [h]
  unfold onces List.Nodup
  rw [List.pairwise_map]
  refine (sorted_up hs).2.imp fun {a b} h e => ?_
  have : a = b := by injection e with e; exact List.toArray_inj e
  rw [this] at h
  exact List.lt_irrefl b h
end Go.Proofs.YtaahdhpljlkfjaaGreat.Rc

/- One name that may be needed; and all of them, sorted, each once. -/
namespace Go.Proofs.YtaahdhpljlkfjaaGreat.Rc
open Go.RowKit Go.Lib Go.Sort

theorem own_cases {w : World} {base : Nat} {A : Option Addr} {L c : Nat} {l : List ByteArray} (h : OwnS w base (.slice A L c) l) : (A = none ∧ L = 0 ∧ c = 0 ∧ l = []) ∨ ∃ g cur, A = some ⟨g, 0, none⟩ ∧ L = l.length ∧ base ≤ g ∧ w.heap[g]? = some (.cells cur 9 (0, 0)) ∧ l.length ≤ c ∧ c ≤ maxLen ∧ cur.size = c * 1 ∧ cur.toList.take (l.length * 1) = l.map encS := by
  rcases h.2 with ⟨e, h0⟩ | ⟨g, cap, cur, e, hb, hh, h1, h2, h3, h4⟩
  · injection e with e1 e2 e3
    exact .inl ⟨e1, e2, e3, List.eq_nil_of_length_eq_zero h0⟩
  · injection e with e1 e2 e3
    subst e1; subst e2; subst e3
    exact .inr ⟨g, cur, rfl, rfl, hb, hh, h1, h2, h3, h4⟩
theorem enc_bytes (l : List ByteArray) : (l.map (·.data.toList)).map encStr = l.map encS := by
  rw [List.map_map]
  refine List.map_congr_left fun s _ => ?_
  show Value.string ⟨s.data.toList.toArray⟩ = Value.string s
  rw [ba_back]
theorem enc_back (l : List (List UInt8)) : (l.map fun b => (⟨b.toArray⟩ : ByteArray)).map encS = l.map encStr := by rw [List.map_map]; rfl
def sortB (l : List ByteArray) : List ByteArray := ((l.map (·.data.toList)).mergeSort fun x y => decide (x ≤ y)).map fun b => (⟨b.toArray⟩ : ByteArray)
theorem sortB_bytes (l : List ByteArray) : (sortB l).map (·.data.toList) = (l.map (·.data.toList)).mergeSort fun x y => decide (x ≤ y) := by
  unfold sortB
  rw [List.map_map]
  exact (List.map_congr_left fun b _ => by simp).trans (List.map_id _)
theorem sortB_len (l : List ByteArray) : (sortB l).length = l.length := by unfold sortB; simp
def SortP (w : World) (base : Nat) (v : Value) (l : List ByteArray) (e : Ending) (w' : World) : Prop := e = .returned (.tuple #[]) ∧ OwnS w' base v (sortB l) ∧ w.grownBy w' v.ownBlock
theorem sort_own (w : World) (base : Nat) (A : Option Addr) (L c : Nat) (l : List ByteArray) (h : OwnS w base (.slice A L c) l) (hl : l.length ≤ 200000) :
    Calls Tryz.prog 77 #[.slice A L c] w (SortP w base (.slice A L c) l) := by
  rcases own_cases h with ⟨rfl, rfl, rfl, rfl⟩ | ⟨g, cur, rfl, rfl, hb, hh, h1, h2, h3, h4⟩
  · refine (Tryz.slices_Sort_string_none none 0 w).mono ?_
    rintro e w' ⟨rfl, rfl⟩
    exact ⟨rfl, by rw [show sortB [] = [] by unfold sortB; simp]; exact h, grown_refl _ _⟩
  · have hH : Holds encStr w g 0 ((l.map (·.data.toList)).toArray) := holds_of_block hh (by rw [List.length_map, enc_bytes]; simpa using h4)
    have hs := Tryz.slices_Sort_string g 0 c (l.map (·.data.toList)) w hH (lt_of_heap hh) (by rw [List.length_map]; omega)
    rw [List.length_map] at hs
    refine hs.mono ?_
    rintro e w' ⟨rfl, n, os, rfl⟩
    have ho := ownsRow_sorted (w := w) (base := base) (cap := c) (n := n) (os := os) (ss := l.map (·.data.toList)) (ts := (l.map (·.data.toList)).mergeSort fun x y => decide (x ≤ y)) (by simp) hb hh (by rw [List.length_map]; exact h1) h2 h3
    rw [List.length_map] at ho
    refine ⟨rfl, ?_, grownBy_sorted _⟩
    show World.ownsRow _ _ _ _ _ _ _
    rw [sortB_len, show (sortB l).map encS = ((l.map (·.data.toList)).mergeSort fun x y => decide (x ≤ y)).map encStr from enc_back _]
    exact ho
theorem compact_le {α : Type} [Inhabited α] [DecidableEq α] (s : List α) : (compact s).length ≤ s.length := by
  unfold compact compactUpTo
  rw [List.length_map]
  exact Nat.le_trans (List.length_filter_le _ _) (by simp)
def OnceP (w : World) (v : Value) (l : List ByteArray) (e : Ending) (w' : World) : Prop := ∃ A L c, e = .returned (.slice A L c) ∧ RowD strK w' (.slice A L c) (onces l) ∧ w.grownBy w' v.ownBlock
theorem compact_own (w : World) (base : Nat) (A : Option Addr) (L c : Nat) (l : List ByteArray) (h : OwnS w base (.slice A L c) (sortB l)) (hl : l.length ≤ 200000) (hz : ∀ s ∈ l, s.size ≤ maxLen) :
    Calls Tryz.prog 78 #[.slice A L c] w (OnceP w (.slice A L c) l) := by
  have hon : onces l = (compact ((sortB l).map (·.data.toList))).map fun b => (⟨b.toArray⟩ : ByteArray) := by rw [sortB_bytes]; rfl
  rcases own_cases h with ⟨rfl, rfl, rfl, he⟩ | ⟨g, cur, rfl, rfl, hb, hh, h1, h2, h3, h4⟩
  · refine (Tryz.slices_Compact_string_empty none 0 w).mono ?_
    rintro e w' ⟨rfl, rfl⟩
    refine ⟨none, 0, 0, rfl, ?_, grown_refl _ _⟩
    rw [hon, he]
    exact RowD.nil _
  · have hH : Holds encStr w g 0 (((sortB l).map (·.data.toList)).toArray) := holds_of_block hh (by rw [List.length_map, enc_bytes]; simpa using h4)
    have hs := Tryz.slices_Compact_string g 0 c ((sortB l).map (·.data.toList)) w hH (by rw [List.length_map, sortB_len]; omega) (by rw [List.length_map]; exact h1)
    rw [List.length_map] at hs
    refine hs.mono ?_
    rintro e w' ⟨rfl, n, rfl⟩
    have hcl := compact_le ((sortB l).map (·.data.toList))
    rw [List.length_map] at hcl
    obtain ⟨K, hK⟩ : ∃ K, compact ((sortB l).map (·.data.toList)) = K := ⟨_, rfl⟩
    rw [hK] at hcl hon ⊢
    have ho := ownsRow_sorted (w := w) (base := base) (cap := c) (n := n) (os := #[]) (ss := (sortB l).map (·.data.toList)) (ts := K ++ List.replicate ((sortB l).length - K.length) []) (by simp; omega) hb hh (by rw [List.length_map]; exact h1) h2 h3
    rw [List.length_map, grow_empty] at ho
    have hg := grownBy_sorted (w := w) (g := g) (n := n) (os := #[]) (K ++ List.replicate ((sortB l).length - K.length) []).toArray
    rw [grow_empty] at hg
    refine ⟨some ⟨g, 0, none⟩, K.length, c, rfl, ?_, hg⟩
    have hO : OwnS (putRow encStr (Go.Sort.ahead w n) g 0 (K ++ List.replicate ((sortB l).length - K.length) []).toArray) base (.slice (some ⟨g, 0, none⟩) (sortB l).length c) ((K ++ List.replicate ((sortB l).length - K.length) []).map fun (b : List UInt8) => (⟨b.toArray⟩ : ByteArray)) := by
      show World.ownsRow _ _ _ _ _ _ _
      rw [enc_back, List.length_map, List.length_append, List.length_replicate, show K.length + ((sortB l).length - K.length) = (sortB l).length by omega]
      exact ho
    have hR := OwnV.row (K := strK) rfl hO fun s hs' => ⟨rfl, by
      rw [List.map_append, List.mem_append] at hs'
      rcases hs' with h' | h'
      · rw [← hon] at h'
        exact hz s (onces_mem.1 h')
      · rw [List.mem_map] at h'
        obtain ⟨b, hb', rfl⟩ := h'
        rw [List.eq_of_mem_replicate hb']
        exact Nat.zero_le _⟩
    have hT := hR.take (k := K.length) (by omega)
    rw [List.map_append, List.take_append_of_le_length (by simp), ← hon, List.take_of_length_le (by rw [hon]; simp)] at hT
    exact hT
def addN (x : Rec) (l : List ByteArray) (s : ByteArray) : List ByteArray := if virtB x s then l ++ [s] else l
/-- Blocks of other types stay. -/
def KeepT (w w' : World) : Prop := ∀ (B : Nat) (cs : Array Value) (T : TypeId), T ≠ 9 → T ≠ 47 → w.heap[B]? = some (.cells cs T (0, 0)) → w'.heap[B]? = some (.cells cs T (0, 0))
theorem KeepT.below {w w' : World} (h : Below w.heap.size w w') : KeepT w w' := fun _ _ _ _ _ hh => heap_below hh h
theorem KeepT.trans {a b c : World} (h : KeepT a b) (k : KeepT b c) : KeepT a c := fun B cs T h1 h2 hh => k B cs T h1 h2 (h B cs T h1 h2 hh)
def NameP (x : Rec) (w0 w : World) (v1 v2 vq vg : Value) (l : List ByteArray) (s : ByteArray) (e : Ending) (w' : World) : Prop := e = .returned (.tuple #[]) ∧ ∃ A L c, Bxs w0 w' [(#[v1, v2], 25), (#[vq], 28), (#[vg], 31), (#[.slice A L c], 47)] ∧ OwnS w' w0.heap.size (.slice A L c) (addN x l s) ∧ KeepT w w'
set_option maxRecDepth 100000 in
set_option maxHeartbeats 1600000 in
theorem name_is (w0 w : World) (v1 v2 vq vg : Value) (A : Option Addr) (L c : Nat) (x : Rec) (n : ByteArray) (u1 u2 : Value) (l : List ByteArray) (hx : Bxs w0 w [(#[v1, v2], 25), (#[vq], 28), (#[vg], 31), (#[.slice A L c], 47)])
    (ho : OwnS w w0.heap.size (.slice A L c) l) (hr : IsRec w0 v1 v2 x) (hl : l.length ≤ 100000) :
    Calls Tryz.prog 74 #[.agg #[.string n, u1, u2], .pointer (some ⟨w0.heap.size, 0, none⟩), .pointer (some ⟨w0.heap.size + 3, 0, none⟩)] w (NameP x w0 w v1 v2 vq vg l n) := by
  obtain ⟨A1, L1, c1, A2, L2, c2, rfl, rfl, -⟩ := rec_box hr
  have HR := Lib.hid hr
  have hbl := below_alloc' w (.cells #[.string n, u1, u2] 59)
  have x0 := cell_alloc_l (.cells #[.string n, u1, u2] 59) (hx.get 0 0 (v := .slice A1 L1 c1) rfl rfl)
  have x1 := cell_alloc_l (.cells #[.string n, u1, u2] 59) (hx.get 0 1 (v := .slice A2 L2 c2) rfl rfl)
  rw [Nat.add_zero] at x0 x1
  have hnew := heap_alloc_new w (.cells #[.string n, u1, u2] 59)
  generalize hw1 : w.alloc (.cells #[.string n, u1, u2] 59) = w1 at hbl hnew
  have HW1 := Lib.hid hw1
  have HX1 := Lib.hid (hx.step hbl)
  have HO1 := Lib.hid (ho.below hbl)
  have HK1 := Lib.hid (KeepT.below hbl)
  obtain ⟨sb, hsb⟩ : ∃ sb, w.heap.size = sb := ⟨_, rfl⟩
  have HE := Lib.hid hsb
  have HN1 := Lib.hid (show w1.heap[sb]? = some (.cells #[.string n, u1, u2] 59 (0, 0)) by rw [← hsb]; exact hnew)
  have HL := Lib.hid (show (l.map encS).length ≤ 200000 by rw [List.length_map]; omega)
  obtain ⟨p, hp⟩ : ∃ p, virtB x n = p := ⟨_, rfl⟩
  have HP := Lib.hid hp
  clear hx ho hr hl hbl hnew hw1 hsb hp
  go_enter Tryz.func74, Tryz.ntmps74
  go_wp2_with fail
  rw [HW1.out, HE.out]
  refine (virtual_is _ _ _ x n (HR.out.below HX1.out.bel (Nat.le_refl _)) p HP.out).mono ?_
  rintro e w2 ⟨rfl, hb2⟩
  have HX2 := Lib.hid (HX1.out.step hb2)
  have HO2 := Lib.hid (HO1.out.below hb2)
  have HN2 := Lib.hid (heap_below HN1.out hb2)
  have HK2 := Lib.hid (HK1.out.trans (KeepT.below hb2))
  clear hb2 x0 x1 HX1 HO1 HN1
  cases p with
  | false =>
    have HA := Lib.hid (show addN x l n = l by unfold addN; rw [HP.out]; rfl)
    go_wp2
    exact bodyPost_ret (v := .tuple #[]) (by simp [results, Tryz.results74, go_sem]) rfl ⟨rfl, A, L, c, HX2.out, by rw [HA.out]; exact HO2.out, HK2.out⟩
  | true =>
    have HA := Lib.hid (show addN x l n = l ++ [n] by unfold addN; rw [HP.out]; rfl)
    have y0 := HX2.out.get 3 0 (v := .slice A L c) rfl rfl
    have n0 := cells_get HN2.out 0 (v := .string n) rfl
    have HXa := Lib.hid (HX2.out.alloc (.cells #[.string n] 9))
    have HOa := Lib.hid (HO2.out.alloc (.cells #[.string n] 9))
    go_wp2_with (at_builtin; go_loud (refine wpList_app_one oneStr rfl (.tmp 8) (.tmp 11) rfl rfl (base := w0.heap.size) (X := w2.heap.size) (v := .slice A L c) (u := .string n) (xs := l.map encS) rfl rfl HOa.out.raw (heap_alloc_new w2 _) rfl HL.out HXa.out.bel.size ?_; intro A' L' c' w5 hown5 hg5; have HO5 := Lib.hid (OwnV.snoc (enc := encS) (l := l) (x := n) hown5); have HX5 := Lib.hid (HXa.out.grown HOa.out (by simp) hg5); have z0 := HX5.out.get 3 0 (v := .slice A L c) rfl rfl; have z1 := HX5.out.free 3 0 rfl; have HK5 := Lib.hid (HK2.out.trans ((KeepT.below (below_alloc' w2 (.cells #[.string n] 9))).trans (show KeepT _ w5 from fun B cs T e1 e2 hh => heap_grown hh hg5 (fun e => own_apart HOa.out hh (Ne.symm e1) e.symm)))); clear hown5 hg5))
    have HX6 := Lib.hid (show Bxs w0 _ [(#[.slice A1 L1 c1, .slice A2 L2 c2], 25), (#[vq], 28), (#[vg], 31), (#[.slice A' L' c'], 47)] from HX5.out.set 3 0 rfl (.slice A' L' c'))
    have HO6 := Lib.hid (HO5.out.touch ((Touch.refl w5 (fun i => i = w0.heap.size + 3)).set _ 0 (.slice A' L' c') rfl) (fun g hg e => own_apart HO5.out (HX5.out.blk 3 _ _ rfl) (by decide) (by rw [hg, e])))
    exact bodyPost_ret (v := .tuple #[]) (by simp [results, Tryz.results74, go_sem]) rfl ⟨rfl, A', L', c', HX6.out, by rw [HA.out]; exact HO6.out, HK5.out.trans (fun B cs T e1 e2 hh => heap_set_far hh (fun e => by
      have := HX5.out.blk 3 _ _ rfl
      rw [← e, hh] at this
      injection this with this
      injection this with _ this
      exact e2 this))⟩
end Go.Proofs.YtaahdhpljlkfjaaGreat.Rc
