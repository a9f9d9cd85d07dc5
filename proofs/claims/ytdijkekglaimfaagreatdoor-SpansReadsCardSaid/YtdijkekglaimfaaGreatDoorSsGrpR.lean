/- The text of a set, cut at its commas: plain mathematics for the reading of sets. -/
import Derived.Test.YtdijkekglaimfaaGreatDoorSsGrpE
import Derived.Test.YtdijkekglaimfaaGreatDoorVerMath3
import Derived.Test.YtdijkekglaimfaaGreatDoorSpanMath2
import Derived.Test.YtdijkekglaimfaaGreatDoorSsGrpC
import Derived.Test.YtdijkekglaimfaaGreatDoorSpan15
import Derived.Test.YtdijkekglaimfaaGreatDoorSpanMath3
import Derived.Test.YtdijkekglaimfaaGreatDoorShelf
import Derived.Lib.SplitLaws
import Derived.Test.YtdijkekglaimfaaGreatDoorSsGrpF
import Derived.Test.YtdijkekglaimfaaGreatDoorSpan4
import Derived.Test.YtdijkekglaimfaaGreatDoorSsRefFormG
namespace Go.Proofs.YtdijkekglaimfaaGreatDoor.Sq
open Go.RowKit Rc Ver Ss

/-- The text of the first n, cut, is their texts. -/
theorem cut_textT (m : List Spn) : ∀ n, n + 1 ≤ m.length → (∀ s ∈ m, ∀ c ∈ (tx s).data.toList, (c == 44) = false) → cut 44 (textT m (n + 1)).data.toList = (m.take (n + 1)).map fun s => (tx s).data.toList
  | 0, hn, h => by
    have e : (textT m 1).data.toList = (tx (Rc.nth m 0)).data.toList := by
      show ((⟨#[]⟩ : ByteArray) ++ tx (Rc.nth m 0)).data.toList = _
      rw [ba_app]; rfl
    rw [e, cut_none 44 _ (h _ (Rc.nth_mem hn)), Rc.take_snoc (show 0 < m.length from hn)]
    rfl
  | n + 1, hn, h => by
    have ih := cut_textT m n (by omega) h
    have e : (textT m (n + 1 + 1)).data.toList = (textT m (n + 1)).data.toList ++ 44 :: (tx (Rc.nth m (n + 1))).data.toList := by
      show ((if 0 < n + 1 then textT m (n + 1) ++ ⟨#[44]⟩ else textT m (n + 1)) ++ tx (Rc.nth m (n + 1))).data.toList = _
      rw [if_pos (by omega), ba_app, ba_app, List.append_assoc]
      rfl
    rw [e, cut_append, ih, cut_none 44 _ (h _ (Rc.nth_mem (by omega))), Rc.take_snoc (show n + 1 < m.length by omega), List.map_append]
    rfl
theorem cut_textM {m : List Spn} (h0 : m ≠ []) (h : ∀ s ∈ m, ∀ c ∈ (tx s).data.toList, (c == 44) = false) : cut 44 (textM m).data.toList = m.map fun s => (tx s).data.toList := by
  obtain ⟨n, hn⟩ : ∃ n, m.length = n + 1 := ⟨m.length - 1, by have := List.length_pos_iff.2 h0; omega⟩
  unfold textM
  rw [if_neg h0, hn, cut_textT m n (by omega) h, ← hn, List.take_length]
/-- One text, one set: for sets whose spans' texts are without a comma and tell them apart. -/
theorem textM_one {m l : List Spn} (hm : m ≠ []) (hl : l ≠ []) (cm : ∀ s ∈ m, ∀ c ∈ (tx s).data.toList, (c == 44) = false) (cl : ∀ s ∈ l, ∀ c ∈ (tx s).data.toList, (c == 44) = false)
    (inj : ∀ s ∈ m, ∀ t ∈ l, tx s = tx t → s = t) (h : textM m = textM l) : m = l := by
  have e : (m.map fun s => (tx s).data.toList) = l.map fun s => (tx s).data.toList := by rw [← cut_textM hm cm, ← cut_textM hl cl, h]
  clear h hm hl cm cl
  induction m generalizing l with
  | nil => cases l with
    | nil => rfl
    | cons t l => simp at e
  | cons s m ih => cases l with
    | nil => simp at e
    | cons t l =>
      rw [List.map_cons, List.map_cons, List.cons.injEq] at e
      have hb : tx s = tx t := by
        have := e.1
        have h2 : (tx s).data = (tx t).data := Array.toList_inj.1 this
        cases hs : tx s; cases ht : tx t
        rw [hs, ht] at h2
        exact congrArg ByteArray.mk h2
      rw [inj s (by simp) t (by simp) hb, ih (fun a ha b hb' => inj a (by simp [ha]) b (by simp [hb'])) e.2]
/-- What is read piece by piece has the text it was read from. -/
theorem textM_back {l : List Spn} {t : ByteArray} (hl : l ≠ []) (h : (l.map fun s => (tx s).data.toList) = cut 44 t.data.toList) (cl : ∀ s ∈ l, ∀ c ∈ (tx s).data.toList, (c == 44) = false) : (textM l).data.toList = t.data.toList := by
  rw [← join_cut 44 (textM l).data.toList, cut_textM hl cl, h, join_cut]
/-! No comma in a span's text; the texts tell spans apart. -/
theorem part_no44 {p : Bs} (h : Ver.part p = true) : ∀ c ∈ p, c ≠ 44 := by
  rintro c hc rfl
  unfold Ver.part at h
  rw [Bool.or_eq_true] at h
  rcases h with h | h
  · unfold word at h
    rw [Bool.and_eq_true, List.all_eq_true] at h
    exact absurd (h.1 44 hc) (by decide)
  · have h2 := number_digits h
    unfold digits at h2
    rw [Bool.and_eq_true, List.all_eq_true] at h2
    exact absurd (h2.1 44 hc) (by decide)
theorem bound_no44 {l : Bs} (h : (l.isEmpty || may l) = true) : ∀ c ∈ l, c ≠ 44 := by
  rw [Bool.or_eq_true] at h
  rcases h with h | h
  · intro c hc; rw [List.isEmpty_iff] at h; rw [h] at hc; simp at hc
  · intro c hc
    rcases mem_cut 46 l c hc with rfl | ⟨p, hp, hc⟩
    · decide
    · unfold may at h
      rw [Bool.and_eq_true, List.all_eq_true] at h
      exact part_no44 (h.2 p hp) c hc
theorem tx_no44 {s : Spn} (h : s.ok) : ∀ c ∈ (tx s).data.toList, (c == 44) = false := by
  intro c hc
  obtain ⟨h1, h2⟩ := smay_bounds (show smay s.1.data.toList s.2.data.toList = true from h)
  have hne : c ≠ 44 := by
    unfold tx at hc
    rw [stext_may (show smay s.1.data.toList s.2.data.toList = true from h)] at hc
    unfold rtext at hc
    split at hc
    · exact bound_no44 h1 c hc
    · rw [ba_app, ba_app, List.mem_append, List.mem_append] at hc
      rcases hc with (hc | hc) | hc
      · exact bound_no44 h1 c hc
      · have : c = 58 := by simpa using hc
        rw [this]; decide
      · exact bound_no44 h2 c hc
  simpa using hne
theorem tx_one {s t : Spn} (hs : s.ok) (ht : t.ok) (h : tx s = tx t) : s = t := by
  have es := sread_text (show smay s.1.data.toList s.2.data.toList = true from hs)
  have et := sread_text (show smay t.1.data.toList t.2.data.toList = true from ht)
  unfold tx at h
  rw [stext_may (show smay s.1.data.toList s.2.data.toList = true from hs), stext_may (show smay t.1.data.toList t.2.data.toList = true from ht)] at h
  rw [h, et] at es
  simp only [Prod.mk.injEq, and_true] at es
  exact (Prod.ext es.1 es.2).symm
/-- The document's test and the code's are one, for spans that may be, read piece by piece. -/
theorem read_test {l : List Spn} {t : ByteArray} (hl : l ≠ []) (ho : spanSp.Oks l) (hp : (l.map fun s => (tx s).data.toList) = cut 44 t.data.toList) (hf : (form l).2 = true) : ((form l).1 = l ↔ textM (form l).1 = t) := by
  have hb := textM_back hl hp (fun s hs => tx_no44 (ho s hs))
  have hbt : textM l = t := by
    cases h1 : textM l with | mk d1 => cases h2 : t with | mk d2 =>
      rw [h1, h2] at hb
      exact congrArg ByteArray.mk (Array.toList_inj.1 hb)
  have hr := (form_true hf).2.1
  constructor
  · intro e; rw [e]; exact hbt
  · intro e
    have hne : (form l).1 ≠ [] := by
      intro h0
      obtain ⟨s, hs⟩ := List.exists_mem_of_ne_nil l hl
      obtain ⟨p, hp⟩ := spanSp.some_mem (ho s hs)
      obtain ⟨u, hu, _⟩ := (hr.same.2 p).1 ⟨s, hs, hp⟩
      rw [h0] at hu; cases hu
    exact textM_one hne hl (fun s hs => tx_no44 (hr.row.oks s hs)) (fun s hs => tx_no44 (ho s hs)) (fun s hs u hu h => tx_one (hr.row.oks s hs) (ho u hu) h) (e.trans hbt.symm)
end Go.Proofs.YtdijkekglaimfaaGreatDoor.Sq

/- One piece, read: the document's reading and the code's are one. -/
namespace Go.Proofs.YtdijkekglaimfaaGreatDoor.Ver
open Go.RowKit

theorem split58 : ∀ l : Bs, (∀ c ∈ l, c ≠ 58) ∨ ∃ p r, l = p ++ 58 :: r ∧ ∀ c ∈ p, c ≠ 58
  | [] => .inl (by simp)
  | d :: l => by
    by_cases h : d = 58
    · exact .inr ⟨[], l, by simp [h], by simp⟩
    · rcases split58 l with h2 | ⟨p, r, rfl, h2⟩
      · left
        intro c hc
        rcases List.mem_cons.1 hc with rfl | hc
        · exact h
        · exact h2 c hc
      · right
        refine ⟨d :: p, r, by simp, ?_⟩
        intro c hc
        rcases List.mem_cons.1 hc with rfl | hc
        · exact h
        · exact h2 c hc

theorem cut_no58 {l : Bs} (h : ∀ c ∈ l, c ≠ 58) : cut 58 l = [l] := cut_none 58 l fun c hc => by simpa using h c hc

theorem sread_no {t : ByteArray} (h : ∀ c ∈ t.data.toList, c ≠ 58) : sread t = if stext t t = t then (t, t, true) else (⟨#[]⟩, ⟨#[]⟩, false) := by
  have hi1 : Lib.indexB t ⟨#[58]⟩ = -1 := by
    show Lib.index _ [58] = -1
    rw [index_one]; exact ib_none 58 _ h
  unfold sread
  rw [if_pos hi1]
  rfl

theorem sread_glue {lo hi : ByteArray} (h : ∀ c ∈ lo.data.toList, c ≠ 58) : sread (lo ++ ⟨#[58]⟩ ++ hi) = if stext lo hi = lo ++ ⟨#[58]⟩ ++ hi then (lo, hi, true) else (⟨#[]⟩, ⟨#[]⟩, false) := by
  have hi1 : Lib.indexB (lo ++ ⟨#[58]⟩ ++ hi) ⟨#[58]⟩ = lo.size := by
    show Lib.index (lo ++ ⟨#[58]⟩ ++ hi).data.toList [58] = lo.size
    rw [index_one]
    have e : (lo ++ ⟨#[58]⟩ ++ hi).data.toList = lo.data.toList ++ 58 :: hi.data.toList := by simp [ByteArray.data_append]
    rw [e, ib_at 58 _ _ h]; rfl
  unfold sread
  rw [if_neg (by rw [hi1]; omega), hi1, Int.toNat_natCast, glue_lo, glue_hi]
  rfl

def isRead (t lo hi : ByteArray) (b : Bool) : Prop := ∀ w, Calls Tryz.prog 14 #[.string t] w fun e w' => e = .returned (.tuple #[.agg #[.string lo, .string hi], .bool b]) ∧ Below w.heap.size w w'

set_option maxHeartbeats 800000 in
theorem refRead_many (t : ByteArray) (hc : 2 < (cut 58 t.data.toList).length) (hl : t.size ≤ 50000) : isRead t ⟨#[]⟩ ⟨#[]⟩ false := by
  intro w
  have hcut := fun w => refCut_any t 58 58 rfl w (by omega)
  have Hcut := Lib.hid hcut
  have hcl := cut_le 58 t.data.toList
  have hb0 := below_new w (.cells #[.string ⟨#[]⟩, .string ⟨#[]⟩] 31)
  have p0_0 := pair_new w ⟨#[]⟩ ⟨#[]⟩ 31
  obtain ⟨n, hn⟩ : ∃ n, (cut 58 t.data.toList).length = n := ⟨_, rfl⟩
  have Hn := Lib.hid hn
  rw [hn] at hc
  clear hcut hcl hn
  go_enter Tryz.func14, Tryz.ntmps14
  go_wp2_with fail
  refine (Hcut.out _).mono ?_
  rintro e w1 ⟨v, rfl, own, h1⟩
  obtain ⟨ao, cap, rfl, fx⟩ := strAt_own own
  rw [Hn.out]
  clear own fx
  have hb1 := hb0.trans (h1.mono hb0.size)
  have p1 := p0_0.below h1
  have c1 := p1.1
  have d1 := p1.2.1
  have f1 := p1.2.2.1
  have g1 := p1.2.2.2
  have lR := World.block_lt_of_cell? _ _ c1
  go_wp2
  have pz := ((p1.set0 ⟨#[]⟩).set1 ⟨#[]⟩).below (below_new ((w1.setCell ⟨w.heap.size, 0, none⟩ (.string ⟨#[]⟩)).setCell ⟨w.heap.size, 1, none⟩ (.string ⟨#[]⟩)) (.cells #[.string ⟨#[]⟩, .string ⟨#[]⟩] 31))
  have z1 := pz.1
  have z2 := pz.2.1
  have hz := (hb1.setCell (p := ⟨w.heap.size, 0, none⟩) (Nat.le_refl _) (.string ⟨#[]⟩)).setCell (p := ⟨w.heap.size, 1, none⟩) (Nat.le_refl _) (.string ⟨#[]⟩)
  refine bodyPost_ret (v := .tuple #[.agg #[.string ⟨#[]⟩, .string ⟨#[]⟩], .bool false]) (by simp [results, Tryz.results14, go_sem, z1, z2]) rfl ⟨rfl, ?_⟩
  exact hz.alloc hz.size _

theorem readBoth (t : ByteArray) (hl : t.size ≤ 3000) : ∃ lo hi, isRead t lo hi (sread t).2.2 ∧ ((sread t).2.2 = true → lo = (sread t).1 ∧ hi = (sread t).2.1) := by
  rcases split58 t.data.toList with hn | ⟨p, r, he, hn⟩
  · have hs := sread_no hn
    cases hm : may t.data.toList with
    | true =>
      have e := stext_self_may hm
      rw [if_pos e] at hs
      rw [hs]
      exact ⟨t, t, fun w => refRead_one t true (cut_no58 hn) hm (by omega) w, fun _ => ⟨rfl, rfl⟩⟩
    | false =>
      rw [if_neg (stext_self_not hm)] at hs
      rw [hs]
      exact ⟨t, t, fun w => refRead_one t false (cut_no58 hn) hm (by omega) w, fun h => by cases h⟩
  · obtain ⟨lo, hlo⟩ : ∃ lo : ByteArray, lo.data.toList = p := ⟨⟨p.toArray⟩, by simp⟩
    obtain ⟨hi, hhi⟩ : ∃ hi : ByteArray, hi.data.toList = r := ⟨⟨r.toArray⟩, by simp⟩
    have et : t = lo ++ ⟨#[58]⟩ ++ hi := ba_ext (by rw [he]; simp [ByteArray.data_append, hlo, hhi])
    have hlo2 : ∀ c ∈ lo.data.toList, c ≠ 58 := by rw [hlo]; exact hn
    have hs := sread_glue (hi := hi) hlo2
    have sz : t.size = lo.size + 1 + hi.size := by
      rw [et, ByteArray.size_append, ByteArray.size_append]; rfl
    have hc : cut 58 t.data.toList = lo.data.toList :: cut 58 hi.data.toList := by
      rw [he, cut_append, cut_no58 hn, hlo, hhi]; rfl
    rw [← et] at hs
    rcases split58 hi.data.toList with hn2 | ⟨p2, r2, he2, hn2⟩
    · rw [cut_no58 hn2] at hc
      cases hb : (smay lo.data.toList hi.data.toList && decide (rtext lo hi = t)) with
      | true =>
        have hb' := hb
        rw [Bool.and_eq_true, decide_eq_true_iff] at hb'
        have e : stext lo hi = t := by rw [stext_may hb'.1]; exact hb'.2
        rw [if_pos e] at hs
        rw [hs]
        exact ⟨lo, hi, fun w => refRead_two t lo hi true hc hb (by omega) (by omega) (by omega) w, fun _ => ⟨rfl, rfl⟩⟩
      | false =>
        have e : stext lo hi ≠ t := by
          intro e
          cases hm : smay lo.data.toList hi.data.toList with
          | true =>
            rw [stext_may hm] at e
            rw [hm, e] at hb
            simp at hb
          | false =>
            rw [stext_not hm, et] at e
            exact empty_glue_ne hi lo e.symm
        rw [if_neg e] at hs
        rw [hs]
        exact ⟨lo, hi, fun w => refRead_two t lo hi false hc hb (by omega) (by omega) (by omega) w, fun h => by cases h⟩
    · have hm : smay lo.data.toList hi.data.toList = false := by
        cases hm : smay lo.data.toList hi.data.toList with
        | false => rfl
        | true => exact absurd rfl (bound_no58 (smay_bounds hm).2 58 (by rw [he2]; simp))
      have e : stext lo hi ≠ t := by
        intro e
        rw [stext_not hm, et] at e
        exact empty_glue_ne hi lo e.symm
      rw [if_neg e] at hs
      rw [hs]
      refine ⟨⟨#[]⟩, ⟨#[]⟩, refRead_many t ?_ (by omega), fun h => by cases h⟩
      rw [hc, he2, cut_append, cut_no58 hn2]
      have := cut_ne 58 r2
      cases hr : cut 58 r2 with
      | nil => exact absurd hr this
      | cons a b => simp

end Go.Proofs.YtdijkekglaimfaaGreatDoor.Ver

/- Reading a set, piece by piece: what the pieces make. -/
namespace Go.Proofs.YtdijkekglaimfaaGreatDoor.Sq
open Go.RowKit Rc Ver Ss

/-- The pieces of a text at its commas. -/
def ps (t : ByteArray) : List ByteArray := (cut 44 t.data.toList).map fun l => (⟨l.toArray⟩ : ByteArray)
def sp (p : ByteArray) : Spn := ((sread p).1, (sread p).2.1)
def okp (p : ByteArray) : Bool := (sread p).2.2
def rd (t : ByteArray) : List Spn := (ps t).map sp
def rdB (t : ByteArray) : Bool := (ps t).all okp
theorem sread_ok {p : ByteArray} (h : okp p = true) : stext (sp p).1 (sp p).2 = p := by
  unfold okp at h
  unfold sp
  unfold sread at h ⊢
  by_cases h1 : Lib.indexB p ⟨#[58]⟩ = -1
  · rw [if_pos h1] at h ⊢
    by_cases h2 : stext p p = p
    · rw [if_pos h2]; exact h2
    · rw [if_neg h2] at h; cases h
  · rw [if_neg h1] at h ⊢
    by_cases h2 : stext (p.extract 0 (Lib.indexB p ⟨#[58]⟩).toNat) (p.extract ((Lib.indexB p ⟨#[58]⟩).toNat + 1) p.size) = p
    · rw [if_pos h2]; exact h2
    · rw [if_neg h2] at h; cases h
theorem sread_empty : okp ByteArray.empty = false := by
  have hn : ∀ c ∈ (ByteArray.empty).data.toList, c ≠ 58 := by intro c hc; cases hc
  unfold okp
  rw [sread_no hn, if_neg (stext_self_not (by decide))]
theorem sp_ok {p : ByteArray} (h : okp p = true) : (sp p).ok := by
  have h1 := sread_ok h
  cases hm : smay (sp p).1.data.toList (sp p).2.data.toList with
  | true => exact hm
  | false =>
    rw [stext_not hm] at h1
    rw [← h1, sread_empty] at h
    cases h
theorem rd_ne (t : ByteArray) : rd t ≠ [] := by
  unfold rd ps
  intro e
  rw [List.map_eq_nil_iff, List.map_eq_nil_iff] at e
  exact cut_ne _ _ e
theorem rd_len (t : ByteArray) : (rd t).length = (ps t).length := by unfold rd; rw [List.length_map]
theorem rd_oks {t : ByteArray} (h : rdB t = true) : spanSp.Oks (rd t) := by
  intro s hs
  obtain ⟨p, hp, rfl⟩ := List.mem_map.1 hs
  exact sp_ok (List.all_eq_true.1 h p hp)
theorem rd_texts {t : ByteArray} (h : rdB t = true) : ((rd t).map fun s => (tx s).data.toList) = cut 44 t.data.toList := by
  have e : ((rd t).map fun s => (tx s).data.toList) = (ps t).map fun p => p.data.toList := by
    unfold rd
    rw [List.map_map]
    refine List.map_congr_left fun p hp => ?_
    show (tx (sp p)).data.toList = _
    unfold tx
    rw [sread_ok (List.all_eq_true.1 h p hp)]
  rw [e]
  unfold ps
  rw [List.map_map]
  exact (List.map_congr_left (fun l _ => by show (l.toArray).toList = l; simp)).trans (List.map_id _)
/-- What is read of a text. -/
noncomputable def readS (t : ByteArray) : List Spn × Bool :=
  if t = ⟨#[33]⟩ then ([], true) else if rdB t = true ∧ (form (rd t)).2 = true ∧ (form (rd t)).1 = rd t then (rd t, true) else ([], false)
theorem readS_bang : readS ⟨#[33]⟩ = ([], true) := by unfold readS; rw [if_pos rfl]
theorem readS_bad {t : ByteArray} (h0 : t ≠ ⟨#[33]⟩) (h : rdB t = false) : readS t = ([], false) := by
  unfold readS; rw [if_neg h0, if_neg (by rw [h]; simp)]
theorem readS_code {t : ByteArray} (h0 : t ≠ ⟨#[33]⟩) (h : rdB t = true) {m : List Spn} {q : Bool} (hf : form (rd t) = (m, q)) : readS t = if q = true ∧ m = rd t then (rd t, true) else ([], false) := by
  unfold readS; rw [if_neg h0, hf]; simp [h]
theorem readS_long {t : ByteArray} (h0 : t ≠ ⟨#[33]⟩) (hl : 40 < (rd t).length) : readS t = ([], false) := by
  unfold readS; rw [if_neg h0, if_neg]
  rintro ⟨_, h2, h3⟩
  have := (form_true h2).2.2
  rw [h3] at this
  omega
theorem readS_ref {t : ByteArray} (h0 : t ≠ ⟨#[33]⟩) (h : rdB t = true) {m : List Spn} {q : Bool} (hf : form (rd t) = (m, q)) : readS t = if q = true ∧ textM m = t then (rd t, true) else ([], false) := by
  rw [readS_code h0 h hf]
  cases q with
  | false => simp
  | true =>
    have := read_test (rd_ne t) (rd_oks h) (rd_texts h) (by rw [hf])
    rw [hf] at this
    simp only [true_and]
    by_cases e : m = rd t
    · rw [if_pos e, if_pos (this.1 e)]
    · rw [if_neg e, if_neg (fun e2 => e (this.2 e2))]
theorem form_readS {t : ByteArray} (h : (readS t).2 = true) : form (readS t).1 = ((readS t).1, true) := by
  unfold readS at h ⊢
  by_cases h0 : t = ⟨#[33]⟩
  · rw [if_pos h0]; exact form_nil
  · rw [if_neg h0] at h ⊢
    by_cases h1 : rdB t = true ∧ (form (rd t)).2 = true ∧ (form (rd t)).1 = rd t
    · rw [if_pos h1]
      show form (rd t) = (rd t, true)
      exact Prod.ext h1.2.2 h1.2.1
    · rw [if_neg h1] at h; cases h
theorem text_readS {t : ByteArray} (h : (readS t).2 = true) : textF (readS t).1 = t := by
  have hf := form_readS h
  unfold textF
  rw [hf]
  show textM (readS t).1 = t
  by_cases h0 : t = ⟨#[33]⟩
  · rw [h0, readS_bang]; rfl
  · cases hb : rdB t with
    | false => rw [readS_bad h0 hb] at h; cases h
    | true =>
      have h2 := readS_ref h0 hb (m := (form (rd t)).1) (q := (form (rd t)).2) rfl
      by_cases h1 : (form (rd t)).2 = true ∧ textM (form (rd t)).1 = t
      · rw [if_pos h1] at h2
        rw [h2]
        have h3 := readS_code h0 hb (m := (form (rd t)).1) (q := (form (rd t)).2) rfl
        rw [h2] at h3
        by_cases h4 : (form (rd t)).2 = true ∧ (form (rd t)).1 = rd t
        · show textM (rd t) = t
          rw [← h4.2]; exact h1.2
        · rw [if_neg h4] at h3
          exact absurd (congrArg Prod.snd h3) (fun e => by cases e)
      · rw [if_neg h1] at h2
        rw [h2] at h; cases h
theorem readS_len (t : ByteArray) : (readS t).1.length ≤ 16 := by
  unfold readS
  split
  · exact Nat.zero_le _
  · split
    · rename_i h
      have := (form_true h.2.1).2.2
      rw [h.2.2] at this; exact this
    · exact Nat.zero_le _
end Go.Proofs.YtdijkekglaimfaaGreatDoor.Sq

/- strings.Split at a comma. -/
namespace Go.Proofs.YtdijkekglaimfaaGreatDoor.Sq
open Go.RowKit Rc Ver Ss

theorem index_one44 (c : UInt8) : ∀ l : Bs, Lib.index l [c] = Lib.indexByte l c
  | [] => rfl
  | b :: l => by
    rw [Lib.index, Lib.indexByte, index_one44 c l]
    by_cases h : b == c
    · have h' : c = b := by have : b = c := by simpa using h
                            exact this.symm
      subst h'; simp [List.isPrefixOf]
    · have h2 : ¬ c = b := fun e => h (by simp [e])
      have hp : ([c] : Bs).isPrefixOf (b :: l) = false := by simp [List.isPrefixOf, h2]
      rw [hp, if_neg h]; rfl

theorem cut_miss44 (c : UInt8) : ∀ l : Bs, Lib.indexByte l c = -1 → cut c l = [l]
  | [], _ => rfl
  | b :: l, h => by
    rw [Lib.indexByte] at h
    by_cases hb : b == c
    · rw [if_pos hb] at h; omega
    · rw [if_neg hb] at h
      have hge := Lib.indexByte_ge l c
      have h' : Lib.indexByte l c = -1 := by
        by_cases h2 : Lib.indexByte l c = -1
        · exact h2
        · rw [if_neg (by simpa using h2)] at h; omega
      rw [cut, if_neg hb, cut_miss44 c l h']
theorem cut_hit44 (c : UInt8) : ∀ (l : Bs) (i : Nat), Lib.indexByte l c = i → cut c l = l.take i :: cut c (l.drop (i + 1)) ∧ l.count c = (l.drop (i + 1)).count c + 1
  | [], i, h => by rw [Lib.indexByte] at h; omega
  | b :: l, i, h => by
    rw [Lib.indexByte] at h
    by_cases hb : b == c
    · rw [if_pos hb] at h
      obtain rfl : i = 0 := by omega
      rw [cut, if_pos hb]
      refine ⟨by simp, ?_⟩
      rw [List.count_cons, if_pos hb]; simp
    · rw [if_neg hb] at h
      have hge := Lib.indexByte_ge l c
      by_cases h2 : Lib.indexByte l c = -1
      · rw [if_pos (by simpa using h2)] at h; omega
      · rw [if_neg (by simpa using h2)] at h
        obtain ⟨j, rfl⟩ : ∃ j, i = j + 1 := ⟨i - 1, by omega⟩
        obtain ⟨h3, h4⟩ := cut_hit44 c l j (by omega)
        rw [cut, if_neg hb, h3]
        refine ⟨by simp, ?_⟩
        rw [List.count_cons, if_neg hb]; simpa using h4
theorem splitK_cut44 (c : UInt8) : ∀ (k : Nat) (l : Bs), l.count c ≤ k → Lib.splitK [c] 0 k l = cut c l
  | 0, l, h => by
    have hm : Lib.indexByte l c = -1 := by
      by_cases h2 : Lib.indexByte l c = -1
      · exact h2
      · have hge := Lib.indexByte_ge l c
        obtain ⟨i, hi⟩ : ∃ i : Nat, Lib.indexByte l c = i := ⟨(Lib.indexByte l c).toNat, by omega⟩
        have := (cut_hit44 c l i hi).2
        omega
    rw [cut_miss44 c l hm]; rfl
  | k + 1, l, h => by
    unfold Lib.splitK
    rw [index_one44]
    by_cases h2 : Lib.indexByte l c = -1
    · rw [if_pos (by simpa using h2), cut_miss44 c l h2]
    · rw [if_neg (by simpa using h2)]
      have hge := Lib.indexByte_ge l c
      obtain ⟨i, hi⟩ : ∃ i : Nat, Lib.indexByte l c = i := ⟨(Lib.indexByte l c).toNat, by omega⟩
      obtain ⟨h3, h4⟩ := cut_hit44 c l i hi
      rw [h3, hi]
      have := splitK_cut44 c k (l.drop (i + 1)) (by omega)
      simp only [Int.toNat_natCast, Nat.add_zero, List.length_cons, List.length_nil, Nat.zero_add]
      rw [this]

theorem countB_one44 (s : ByteArray) (c : UInt8) : Lib.countB s ⟨#[c]⟩ = s.data.toList.count c := Lib.count_one c s.data.toList
theorem mk_toList44 (s : ByteArray) : (⟨s.data.toList.toArray⟩ : ByteArray) = s := by cases s; simp
theorem splitB_pieces44 (s : ByteArray) : Lib.splitB ⟨#[44]⟩ 0 (Lib.countB s ⟨#[44]⟩) s = ps s := by
  have h := Lib.splitB_data ⟨#[44]⟩ 0 (Lib.countB s ⟨#[44]⟩) s
  rw [show (⟨#[44]⟩ : ByteArray).data.toList = [44] from rfl, splitK_cut44 44 _ _ (by rw [countB_one44]; exact Nat.le_refl _)] at h
  unfold ps
  rw [← h, List.map_map]
  conv => lhs; rw [← List.map_id (Lib.splitB ⟨#[44]⟩ 0 (Lib.countB s ⟨#[44]⟩) s)]
  refine List.map_congr_left fun x _ => ?_
  simp

theorem cut_len44 (c : UInt8) : ∀ l : Bs, (cut c l).length = l.count c + 1
  | [] => rfl
  | b :: l => by
    have ih := cut_len44 c l
    rw [cut]
    by_cases hb : b == c
    · rw [if_pos hb, List.count_cons, if_pos hb]; simp [ih]
    · rw [if_neg hb, List.count_cons, if_neg hb]
      cases hc : cut c l with
      | nil => rw [hc] at ih; simp at ih
      | cons p ps => rw [hc] at ih; simpa using ih

theorem count_le_len44 (l : Bs) (c : UInt8) : l.count c ≤ l.length := List.count_le_length
theorem split_any44 (s : ByteArray) (w : World) (hs : s.size ≤ 65536) :
    Calls Tryz.prog 10 #[.string s, .string ⟨#[44]⟩] w fun e w' => ∃ n : Nat, e = .returned (.slice (some ⟨w.heap.size, 0, none⟩) n n) ∧ n = (ps s).length ∧ n ≤ 65537 ∧
      w' = w.alloc (.cells ((ps s).map Value.string).toArray 9) := by
  have hlen : s.data.toList.length = s.size := by simp
  have hcl := count_le_len44 s.data.toList 44
  have hG : Calls Tryz.prog 26 #[.string s, .string ⟨#[44]⟩, .int .i64 0, .int .i64 (-1)] w fun e w' => ∃ n : Nat, e = .returned (.slice (some ⟨w.heap.size, 0, none⟩) n n) ∧ n = (ps s).length ∧ n ≤ 65537 ∧
      w' = w.alloc (.cells ((ps s).map Value.string).toArray 9) := by
    have hI : ∀ (x : ByteArray) (c : Array Value), x.size ≤ s.size → Calls Tryz.prog (Tryz.lays221_ren.f 143) #[.string x, .string ⟨#[44]⟩] (w.alloc (.cells c (Tryz.lays221_ren.t 9))) fun e w' => e = .returned (.int .i64 (Lib.indexB x ⟨#[44]⟩)) ∧ w' = w.alloc (.cells c (Tryz.lays221_ren.t 9)) := by
      intro x c _
      refine (Tryz.strings_Index_one x 44 _).mono fun e w' ⟨he, hw⟩ => ⟨?_, hw⟩
      rw [he]
      show _ = Ending.returned (Value.int .i64 (Lib.index x.data.toList [44]))
      rw [index_one44]
    have hC : Calls Tryz.prog (Tryz.lays221_ren.f 138) #[.string s, .string ⟨#[44]⟩] w fun e w' => e = .returned (.int .i64 (Lib.countB s ⟨#[44]⟩)) ∧ w' = w := by
      refine (Tryz.strings_Count_one s 44 w).mono fun e w' ⟨he, hw⟩ => ⟨?_, hw⟩
      rw [he, countB_one44]; rfl
    have hc := Any.strings_genSplit_core Tryz.lays221 (by kernel_rfl) s ⟨#[44]⟩ 0 (-1) (Lib.countB s ⟨#[44]⟩ + 1) w (by omega) (by decide) (Nat.zero_le _) hI hC (by decide) (by decide) (by rw [if_pos (by decide), countB_one44]; omega)
    refine hc.mono fun e w' ⟨he, hw⟩ => ?_
    rw [Nat.add_sub_cancel, splitB_pieces44] at he hw
    have hpl : (ps s).length = Lib.countB s ⟨#[44]⟩ + 1 := by unfold ps; rw [List.length_map, cut_len44, countB_one44]
    rw [← hpl, Lib.cellsOf_full] at hw
    rw [← hpl] at he
    exact ⟨_, he, rfl, by rw [hpl, countB_one44]; omega, hw⟩
  have HG := Lib.hid hG
  clear hG hlen hcl
  go_enter Tryz.func10, Tryz.ntmps10
  go_wp2_with fail
  refine HG.out.mono ?_
  rintro e w' ⟨n, rfl, hn, hn2, rfl⟩
  have HN := Lib.hid hn
  clear hn
  go_wp2
  go_ret
  exact ⟨n, rfl, HN.out, hn2, rfl⟩

end Go.Proofs.YtdijkekglaimfaaGreatDoor.Sq

/- A set's text, read: the program. -/
namespace Go.Proofs.YtdijkekglaimfaaGreatDoor.Sq
open Go.RowKit Rc Ver Ss

def ReadD (t : ByteArray) (w : World) (e : Ending) (w' : World) : Prop := ∃ v, e = .returned (.tuple #[v, .bool (readS t).2]) ∧ RowD setK w' v (readS t).1 ∧ RowKit.Below w.heap.size w w'
theorem ps_size {t p : ByteArray} (h : p ∈ ps t) : p.size ≤ t.size := by
  unfold ps at h
  obtain ⟨l, hl, rfl⟩ := List.mem_map.1 h
  have := ref_part_le 44 t.data.toList l hl
  have e : t.size = t.data.toList.length := by simp
  rw [e]
  show l.toArray.size ≤ _
  simpa using this
theorem ps_cell {w : World} {B : Nat} {t : ByteArray} (h : w.heap[B]? = some (.cells ((ps t).map Value.string).toArray 9 (0, 0))) {k : Nat} (hk : k < (ps t).length) : w.cell? ⟨B, k, none⟩ = some (.string (Rc.nth (ps t) k)) :=
  cells_get h k (by rw [Rc.nth_lt hk]; simp [hk])
theorem all_take {l : List ByteArray} {k : Nat} (hk : k < l.length) (f : ByteArray → Bool) (h : (l.take k).all f = true) (h2 : f (Rc.nth l k) = true) : (l.take (k + 1)).all f = true := by
  rw [Rc.take_snoc hk, List.all_append, h, Bool.true_and, List.all_cons, h2]; rfl
theorem map_take {l : List ByteArray} {k : Nat} (hk : k < l.length) (f : ByteArray → Spn) : (l.take (k + 1)).map f = (l.take k).map f ++ [f (Rc.nth l k)] := by
  rw [Rc.take_snoc hk, List.map_append]; rfl
theorem rdB_not {t : ByteArray} {k : Nat} (hk : k < (ps t).length) (h : okp (Rc.nth (ps t) k) = false) : rdB t = false := by
  cases hb : rdB t with
  | false => rfl
  | true =>
    have := List.all_eq_true.1 hb _ (Rc.nth_mem hk)
    rw [h] at this; cases this
set_option maxRecDepth 100000 in
set_option maxHeartbeats 1600000 in
theorem read_any (t : ByteArray) (hl : t.size ≤ 3000) (w : World) : Calls Tryz.prog 5 #[.string t] w (ReadD t w) := by
  by_cases h0 : t = ⟨#[33]⟩
  · subst h0
    have hR := Lib.hid readS_bang
    go_enter Tryz.func5, Tryz.ntmps5
    go_wp2
    exact bodyPost_ret (v := .tuple #[.slice none 0 0, .bool true]) (by simp [results, Tryz.results5, go_sem]) rfl ⟨_, by rw [hR.out], by rw [hR.out]; exact RowD.nil _, RowKit.Below.refl _ _⟩
  · have f2 : ¬ t.toList = [33] := fun e => h0 (toList_eq.1 (e.trans (by rw [Lib.toList_data])))
    have f1 : (t.toList == [33]) = false := by rw [beq_eq_false_iff_ne]; exact f2
    have H0 := Lib.hid h0
    clear h0
    go_enter Tryz.func5, Tryz.ntmps5
    go_wp2_with fail
    refine (split_any44 t w (by omega)).mono ?_
    rintro e w1 ⟨n, rfl, hn, hn2, rfl⟩
    have HN := Lib.hid hn
    have HP0 := Lib.hid (heap_alloc_new w (.cells ((ps t).map Value.string).toArray 9))
    have HB0 := Lib.hid ((RowKit.Below.refl w.heap.size w).alloc (Nat.le_refl _) (.cells ((ps t).map Value.string).toArray 9))
    clear hn f1 f2
    generalize hw1 : w.alloc (.cells ((ps t).map Value.string).toArray 9) = w1 at HP0 HB0 ⊢
    have hs1 : w1.heap.size = w.heap.size + 1 := by rw [← hw1]; simp
    have HS1 := Lib.hid hs1
    clear hw1 hs1
    have HB1 := Lib.hid (RowKit.Below.refl w1.heap.size w1)
    go_wp2
    go_loopw [4, 16] (fun u i wr => ∃ k : Nat, k ≤ n ∧ i = .int .i64 k ∧ Hid (OwnK setK 31 w wr w1.heap.size u (((ps t).take k).map sp)) ∧ Hid (((ps t).take k).all okp = true) ∧ Hid (RowKit.Below w1.heap.size w1 wr)) (fun _ i _ => n - (RowKit.intOf i).toNat)
    case atStart => exact ⟨0, Nat.zero_le _, rfl, Lib.hid (OwnK.nil _ _ _ _), Lib.hid rfl, HB1⟩
    case round =>
      obtain ⟨k, hk, rfl, HO, HA, HW⟩ := hrel
      obtain ⟨A5, L5, c5, rfl⟩ := HO.out.sl
      by_cases hlt : k < n
      · have hkn : k < (ps t).length := by rw [← HN.out]; exact hlt
        have hc := ps_cell (heap_below HP0.out HW.out) hkn
        have hsz := ps_size (Rc.nth_mem hkn)
        have HAN := Lib.hid (fun h => all_take hkn okp HA.out h)
        have HMN := Lib.hid (map_take hkn sp)
        have HNOT := Lib.hid (fun h => rdB_not hkn h)
        have HLEN := Lib.hid (show (((ps t).take k).map sp).length ≤ 99999 by rw [List.length_map, List.length_take]; omega)
        obtain ⟨p, hp⟩ : ∃ p, Rc.nth (ps t) k = p := ⟨_, rfl⟩
        rw [hp] at hc hsz HAN HMN HNOT
        clear hp hkn
        obtain ⟨lo, hi, b, hs⟩ : ∃ lo hi b, sread p = (lo, hi, b) := ⟨_, _, _, rfl⟩
        have HS := Lib.hid hs
        have HSP := Lib.hid (show sp p = (lo, hi) by unfold sp; rw [hs])
        have HOK := Lib.hid (show okp p = b by unfold okp; rw [hs])
        clear hs
        obtain ⟨zs, hzs⟩ : ∃ zs, ((ps t).take k).map sp = zs := ⟨_, rfl⟩
        rw [hzs] at HO HMN HLEN
        clear hzs
        go_wp2_with fail
        refine (spanRead_is p lo hi b HS.out (by omega) _).mono ?_
        rintro e w2 ⟨rfl, hb2⟩
        have HW2 := Lib.hid (HW.out.trans (hb2.mono HW.out.size))
        have HO2 := Lib.hid (HO.out.below hb2)
        clear hb2 hc
        cases b with
        | false =>
          have HV := Lib.hid (readS_bad H0.out (HNOT.out HOK.out))
          go_wp2
          exact bodyPost_ret (v := .tuple #[.slice none 0 0, .bool false]) (by simp [results, Tryz.results5, go_sem]) rfl ⟨_, by rw [HV.out], by rw [HV.out]; exact RowD.nil _, HB0.out.trans ((HW2.out.alloc HW2.out.size _).mono (by rw [HS1.out]; omega))⟩
        | true =>
          have HZ := Lib.hid (And.intro (HAN.out HOK.out) (show ((ps t).take (k + 1)).map sp = zs ++ [(lo, hi)] by rw [HMN.out, HSP.out]))
          obtain ⟨q1, q2⟩ := ok_small (show Spn.ok (lo, hi) by rw [← HSP.out]; exact sp_ok HOK.out)
          have HM := Lib.hid (show lo.size ≤ maxLen ∧ hi.size ≤ maxLen from ⟨by have : lo.size ≤ 40 := q1; unfold maxLen; omega, by have : hi.size ≤ 40 := q2; unfold maxLen; omega⟩)
          have pz := pair_new w2 lo hi 31
          have c0 := pz.1
          have c1 := pz.2.1
          have HX := Lib.hid (show ((w2.alloc (.cells #[.string lo, .string hi] 31)).alloc (.cells #[.string lo, .string hi] 31)).heap[w2.heap.size + 1]? = some (.cells #[.string lo, .string hi] 31 (0, 0)) by
            have := heap_alloc_new (w2.alloc (.cells #[.string lo, .string hi] 31)) (.cells #[.string lo, .string hi] 31)
            rw [show (w2.alloc (.cells #[.string lo, .string hi] 31)).heap.size = w2.heap.size + 1 by simp] at this
            exact this)
          have HW3 := Lib.hid ((HW2.out.alloc HW2.out.size (.cells #[.string lo, .string hi] 31)).alloc (HW2.out.alloc HW2.out.size (.cells #[.string lo, .string hi] 31)).size (.cells #[.string lo, .string hi] 31))
          have HO3 := Lib.hid ((HO2.out.alloc (.cells #[.string lo, .string hi] 31)).alloc (.cells #[.string lo, .string hi] 31))
          clear q1 q2 pz
          go_wp2_with (at_builtin; refine wpList_app_el elemSpan rfl (.tmp 27) (.tmp 29) rfl rfl (w0 := w) (base := w1.heap.size) (X := w2.heap.size + 1) (v := .slice A5 L5 c5) (xs := zs) (x := (lo, hi)) (cs := #[.string lo, .string hi]) rfl rfl HO3.out HX.out ⟨rfl, HM.out.1, HM.out.2⟩ HLEN.out HW3.out.size ?_; intro A6 L6 c6 w5 hown5 hg5; have HO5 := Lib.hid hown5; have HW5 := Lib.hid (HW3.out.grown hg5 HW3.out.size (fun g hgg => (HO3.out.lt g hgg).1)); clear hown5 hg5)
          go_roundw
          case rel => exact ⟨k + 1, by omega, by go_num, Lib.hid (by rw [HZ.out.2]; exact HO5.out), Lib.hid HZ.out.1, HW5⟩
          case measure => simp [RowKit.intOf]; omega
      · have hkn : k = n := by omega
        have hall : rdB t = true := by
          have := HA.out
          rw [hkn, HN.out, List.take_length] at this; exact this
        have hzs : ((ps t).take k).map sp = rd t := by rw [hkn, HN.out, List.take_length]; rfl
        have hlen : (rd t).length ≤ 65537 := by rw [rd_len, ← HN.out]; exact hn2
        rw [hzs] at HO
        have hbel : RowKit.Below w.heap.size w wr := HB0.out.trans (HW.out.mono (by rw [HS1.out]; omega))
        have HR := Lib.hid (HO.out.row hbel)
        have HBE := Lib.hid hbel
        have HALL := Lib.hid hall
        obtain ⟨m, q, hf⟩ : ∃ m q, form (rd t) = (m, q) := ⟨_, _, rfl⟩
        have HF := Lib.hid hf
        clear hall hzs hbel hf hkn
        go_wp2_with fail
        refine (form_any _ _ (rd t) HR.out (by omega) (m, q) HF.out).mono ?_
        rintro e w2 ⟨v2, rfl, hv2, hb2⟩
        obtain ⟨A2, L2, c2, rfl⟩ := hv2.sl
        have HR2 := Lib.hid (HR.out.below hb2 (Nat.le_refl _))
        have HV2 := Lib.hid hv2
        have HW2 := Lib.hid (HBE.out.trans (hb2.mono HBE.out.size))
        have HC := Lib.hid (readS_code H0.out HALL.out HF.out)
        clear hv2 hb2
        cases q with
        | false =>
          have HV := Lib.hid (show readS t = ([], false) by rw [HC.out, if_neg (fun h => by cases h.1)])
          go_wp2
          exact bodyPost_ret (v := .tuple #[.slice none 0 0, .bool false]) (by simp [results, Tryz.results5, go_sem]) rfl ⟨_, by rw [HV.out], by rw [HV.out]; exact RowD.nil _, HW2.out⟩
        | true =>
          obtain ⟨z, hz⟩ : ∃ z, decide (m = rd t) = z := ⟨_, rfl⟩
          have HZ := Lib.hid hz
          clear hz
          go_wp2_with fail
          refine (equal_is _ _ _ m (rd t) HV2.out HR2.out z HZ.out).mono ?_
          rintro e w3 ⟨rfl, hb3⟩
          have HV3 := Lib.hid (HV2.out.below hb3 (Nat.le_refl _))
          have HW3 := Lib.hid (HW2.out.trans (hb3.mono HW2.out.size))
          clear hb3
          cases z with
          | false =>
            have HV := Lib.hid (show readS t = ([], false) by rw [HC.out, if_neg (fun h => of_decide_eq_false HZ.out h.2)])
            go_wp2
            exact bodyPost_ret (v := .tuple #[.slice none 0 0, .bool false]) (by simp [results, Tryz.results5, go_sem]) rfl ⟨_, by rw [HV.out], by rw [HV.out]; exact RowD.nil _, HW3.out⟩
          | true =>
            have HV := Lib.hid (show readS t = (m, true) by
              have hm : m = rd t := of_decide_eq_true HZ.out
              rw [HC.out, if_pos ⟨by trivial, hm⟩, hm])
            go_wp2
            exact bodyPost_ret (v := .tuple #[.slice A2 L2 c2, .bool true]) (by simp [results, Tryz.results5, go_sem]) rfl ⟨_, by rw [HV.out], by rw [HV.out]; exact HV3.out, HW3.out⟩
end Go.Proofs.YtdijkekglaimfaaGreatDoor.Sq

/- A set's text, read: the document. -/
namespace Go.Proofs.YtdijkekglaimfaaGreatDoor.Sq
open Go.RowKit Rc Ver Ss

theorem ps_nth {t : ByteArray} {k : Nat} (hk : k < (ps t).length) : Rc.nth (ps t) k = ⟨(Ver.nth (cut 44 t.data.toList) k).toArray⟩ := by
  have hk2 : k < (cut 44 t.data.toList).length := by unfold ps at hk; rwa [List.length_map] at hk
  rw [Rc.nth_lt hk, Ver.nth_lt hk2]
  simp [ps]
theorem ps_str {w : World} {v : Value} {t : ByteArray} (h : StrAt w v (cut 44 t.data.toList)) {k : Nat} (hk : k < (ps t).length) : ∃ b off c, v = .slice (some ⟨b, off, none⟩) (ps t).length c ∧ b < w.heap.size ∧ w.cell? ⟨b, off + k, none⟩ = some (.string (Rc.nth (ps t) k)) := by
  obtain ⟨ao, cap, rfl, h⟩ := h
  have e : (ps t).length = (cut 44 t.data.toList).length := by unfold ps; rw [List.length_map]
  obtain ⟨b, off, rfl, hlt, hc⟩ := h (by omega)
  exact ⟨b, off, cap, by rw [e], hlt, by rw [ps_nth hk]; exact hc k (by omega)⟩
set_option maxRecDepth 100000 in
set_option maxHeartbeats 1600000 in
theorem refReadL_is (t : ByteArray) (hl : t.size ≤ 3000) (w : World) : Calls Tryz.prog 6 #[.string t] w (ReadD t w) := by
  have HE := Lib.hid (heap_alloc_new w (.cells #[] 31))
  have HB0 := Lib.hid ((RowKit.Below.refl w.heap.size w).alloc (Nat.le_refl _) (.cells #[] 31))
  by_cases h0 : t = ⟨#[33]⟩
  · subst h0
    have hR := Lib.hid readS_bang
    go_enter Tryz.func6, Tryz.ntmps6
    go_wp2
    exact bodyPost_ret (v := .tuple #[.slice (some ⟨w.heap.size, 0, none⟩) 0 0, .bool true]) (by simp [results, Tryz.results6, go_sem]) rfl ⟨_, by rw [hR.out], by rw [hR.out]; exact RowD.empty' _ _ (Nat.zero_le _), HB0.out⟩
  · have f2 : ¬ t.toList = [33] := fun e => h0 (toList_eq.1 (e.trans (by rw [Lib.toList_data])))
    have f1 : (t.toList == [33]) = false := by rw [beq_eq_false_iff_ne]; exact f2
    have H0 := Lib.hid h0
    have hpc : (ps t).length ≤ 3001 := by
      have := cut_len44 44 t.data.toList
      have h2 := count_le_len44 t.data.toList 44
      have h3 : t.data.toList.length = t.size := by simp
      unfold ps
      rw [List.length_map]; omega
    have HPC := Lib.hid hpc
    clear h0 hpc
    go_enter Tryz.func6, Tryz.ntmps6
    go_wp2_with fail
    refine (refCut_any t 44 44 rfl _ (by omega)).mono ?_
    rintro e w1 ⟨v, rfl, own, hb1⟩
    have hst := strAt_own own
    have HB1 := Lib.hid (HB0.out.trans (hb1.mono HB0.out.size))
    have HE1 := Lib.hid (heap_below HE.out (hb1.mono (by simp)))
    have HST := Lib.hid hst
    obtain ⟨n, hn⟩ : ∃ n, (ps t).length = n := ⟨_, rfl⟩
    have hcn : (cut 44 t.data.toList).length = n := by rw [← hn]; unfold ps; rw [List.length_map]
    obtain ⟨ao, cap, rfl, -⟩ := id hst
    have HCN := Lib.hid hcn
    have HN := Lib.hid hn
    have hn2 : n ≤ 3001 := by rw [← hn]; exact HPC.out
    have HEA := Lib.hid (heap_alloc_new w1 (.cells #[] 31))
    have HBA := Lib.hid ((RowKit.Below.refl w1.heap.size w1).alloc (Nat.le_refl _) (.cells #[] 31))
    have HO0 := Lib.hid (OwnK.empty (K := setK) (e := 31) w HEA.out (Nat.le_refl _))
    rw [hcn]
    clear own f1 f2 hb1 hst hcn hn
    go_wp2
    go_loopw [6, 21] (fun u i wr => ∃ k : Nat, k ≤ n ∧ i = .int .i64 k ∧ Hid (OwnK setK 31 w wr w1.heap.size u (((ps t).take k).map sp)) ∧ Hid (((ps t).take k).all okp = true) ∧ Hid (RowKit.Below w1.heap.size w1 wr)) (fun _ i _ => n - (RowKit.intOf i).toNat)
    case atStart => exact ⟨0, Nat.zero_le _, rfl, HO0, Lib.hid rfl, HBA⟩
    case round =>
      obtain ⟨k, hk, rfl, HO, HA, HW⟩ := hrel
      obtain ⟨A5, L5, c5, rfl⟩ := HO.out.sl
      by_cases hlt : k < n
      · have hkn : k < (ps t).length := by rw [HN.out]; exact hlt
        obtain ⟨bb, off, cc, hv, hbb, hc⟩ := ps_str (HST.out.below HW.out) hkn
        rw [HCN.out, HN.out] at hv
        injection hv with hv1 hv2 hv3
        subst hv1
        subst hv3
        clear hv2
        have hsz := ps_size (Rc.nth_mem hkn)
        have HAN := Lib.hid (fun h => all_take hkn okp HA.out h)
        have HMN := Lib.hid (map_take hkn sp)
        have HNOT := Lib.hid (fun h => rdB_not hkn h)
        have HLEN := Lib.hid (show (((ps t).take k).map sp).length ≤ 99999 by rw [List.length_map, List.length_take]; omega)
        obtain ⟨p, hp⟩ : ∃ p, Rc.nth (ps t) k = p := ⟨_, rfl⟩
        rw [hp] at hc hsz HAN HMN HNOT
        clear hp hkn
        obtain ⟨lo, hi, HI, hlh⟩ := readBoth p (by omega)
        obtain ⟨b, hb⟩ : ∃ b, (sread p).2.2 = b := ⟨_, rfl⟩
        rw [hb] at HI hlh
        have HIH := Lib.hid HI
        have HOK := Lib.hid (show okp p = b from hb)
        have HSP := Lib.hid (show b = true → sp p = (lo, hi) from fun h => by obtain ⟨e1, e2⟩ := hlh h; rw [e1, e2]; rfl)
        clear hb hlh HI
        obtain ⟨zs, hzs⟩ : ∃ zs, ((ps t).take k).map sp = zs := ⟨_, rfl⟩
        rw [hzs] at HO HMN HLEN
        clear hzs
        have g0 : (0 : Int) ≤ (k : Int) := by omega
        have g1 : (k : Int) < (n : Int) := by omega
        go_wp2_with fail
        refine (HIH.out _).mono ?_
        rintro e w2 ⟨rfl, hb2⟩
        have HW2 := Lib.hid (HW.out.trans (hb2.mono HW.out.size))
        have HO2 := Lib.hid (HO.out.below hb2)
        clear hb2 hc
        cases b with
        | false =>
          have HV := Lib.hid (readS_bad H0.out (HNOT.out HOK.out))
          go_wp2
          exact bodyPost_ret (v := .tuple #[.slice (some ⟨w.heap.size, 0, none⟩) 0 0, .bool false]) (by simp [results, Tryz.results6, go_sem]) rfl ⟨_, by rw [HV.out], by rw [HV.out]; exact RowD.empty' _ _ (Nat.zero_le _), HB1.out.trans ((HW2.out.alloc HW2.out.size _).mono HB1.out.size)⟩
        | true =>
          have HZ := Lib.hid (And.intro (HAN.out HOK.out) (show ((ps t).take (k + 1)).map sp = zs ++ [(lo, hi)] by rw [HMN.out, HSP.out rfl]))
          obtain ⟨q1, q2⟩ := ok_small (show Spn.ok (lo, hi) by rw [← HSP.out rfl]; exact sp_ok HOK.out)
          have HM := Lib.hid (show lo.size ≤ maxLen ∧ hi.size ≤ maxLen from ⟨by have : lo.size ≤ 40 := q1; unfold maxLen; omega, by have : hi.size ≤ 40 := q2; unfold maxLen; omega⟩)
          have pz := pair_new w2 lo hi 31
          have c0 := pz.1
          have c1 := pz.2.1
          have HX := Lib.hid (show ((w2.alloc (.cells #[.string lo, .string hi] 31)).alloc (.cells #[.string lo, .string hi] 31)).heap[w2.heap.size + 1]? = some (.cells #[.string lo, .string hi] 31 (0, 0)) by
            have := heap_alloc_new (w2.alloc (.cells #[.string lo, .string hi] 31)) (.cells #[.string lo, .string hi] 31)
            rw [show (w2.alloc (.cells #[.string lo, .string hi] 31)).heap.size = w2.heap.size + 1 by simp] at this
            exact this)
          have HW3 := Lib.hid ((HW2.out.alloc HW2.out.size (.cells #[.string lo, .string hi] 31)).alloc (HW2.out.alloc HW2.out.size (.cells #[.string lo, .string hi] 31)).size (.cells #[.string lo, .string hi] 31))
          have HO3 := Lib.hid ((HO2.out.alloc (.cells #[.string lo, .string hi] 31)).alloc (.cells #[.string lo, .string hi] 31))
          clear q1 q2 pz
          go_wp2_with (at_builtin; refine wpList_app_el elemSpan rfl (.tmp 35) (.tmp 37) rfl rfl (w0 := w) (base := w1.heap.size) (X := w2.heap.size + 1) (v := .slice A5 L5 c5) (xs := zs) (x := (lo, hi)) (cs := #[.string lo, .string hi]) rfl rfl HO3.out HX.out ⟨rfl, HM.out.1, HM.out.2⟩ HLEN.out HW3.out.size ?_; intro A6 L6 c6 w5 hown5 hg5; have HO5 := Lib.hid hown5; have HW5 := Lib.hid (HW3.out.grown hg5 HW3.out.size (fun g hgg => (HO3.out.lt g hgg).1)); clear hown5 hg5)
          go_roundw
          case rel => exact ⟨k + 1, by omega, by go_num, Lib.hid (by rw [HZ.out.2]; exact HO5.out), Lib.hid HZ.out.1, HW5⟩
          case measure => simp [RowKit.intOf]; omega
      · have hkn : k = n := by omega
        have hall : rdB t = true := by
          have := HA.out
          rw [hkn, ← HN.out, List.take_length] at this; exact this
        have hzs : ((ps t).take k).map sp = rd t := by rw [hkn, ← HN.out, List.take_length]; rfl
        have hlen : (rd t).length = n := by rw [rd_len, ← HN.out]
        rw [hzs] at HO
        have hL5 : L5 = n := by rw [← hlen]; exact HO.out.len
        have HLN := Lib.hid hlen
        have hbel : RowKit.Below w.heap.size w wr := HB1.out.trans (HW.out.mono HB1.out.size)
        have HR := Lib.hid (HO.out.row hbel)
        have HBE := Lib.hid hbel
        have HALL := Lib.hid hall
        obtain ⟨m, q, hf⟩ : ∃ m q, form (rd t) = (m, q) := ⟨_, _, rfl⟩
        have HF := Lib.hid hf
        clear hall hzs hbel hf hlen
        subst hL5
        by_cases h40 : 40 < L5
        · have g40 : (40 : Int) < (L5 : Int) := by omega
          have HV := Lib.hid (readS_long H0.out (by rw [HLN.out]; exact h40))
          go_wp2
          exact bodyPost_ret (v := .tuple #[.slice (some ⟨w.heap.size, 0, none⟩) 0 0, .bool false]) (by simp [results, Tryz.results6, go_sem]) rfl ⟨_, by rw [HV.out], by rw [HV.out]; exact RowD.empty' _ _ (Nat.zero_le _), HBE.out⟩
        · have g40 : ¬ (40 : Int) < (L5 : Int) := by omega
          go_wp2_with fail
          refine (refForm_is _ _ (rd t) HR.out (by rw [HLN.out]; omega) (m, q) HF.out).mono ?_
          rintro e w2 ⟨v2, rfl, hv2, hb2⟩
          obtain ⟨A2, L2, c2, rfl⟩ := hv2.sl
          have HR2 := Lib.hid (HR.out.below hb2 (Nat.le_refl _))
          have HV2 := Lib.hid hv2
          have HW2 := Lib.hid (HBE.out.trans (hb2.mono HBE.out.size))
          have HC := Lib.hid (readS_ref H0.out HALL.out HF.out)
          clear hv2 hb2
          cases q with
          | false =>
            have HV := Lib.hid (show readS t = ([], false) by rw [HC.out, if_neg (fun h => by cases h.1)])
            go_wp2
            exact bodyPost_ret (v := .tuple #[.slice (some ⟨w.heap.size, 0, none⟩) 0 0, .bool false]) (by simp [results, Tryz.results6, go_sem]) rfl ⟨_, by rw [HV.out], by rw [HV.out]; exact RowD.empty' _ _ (Nat.zero_le _), HW2.out⟩
          | true =>
            have hft := form_true (l := rd t) (by rw [HF.out])
            rw [HF.out] at hft
            have HFO := Lib.hid (And.intro hft.2.1.row.oks hft.2.2)
            clear hft
            obtain ⟨y, hy⟩ : ∃ y, textM m = y := ⟨_, rfl⟩
            have HY := Lib.hid hy
            clear hy
            by_cases e1 : y = t
            · subst e1
              have f3 : (y.toList != y.toList) = false := by simp
              have HV := Lib.hid (show readS y = (rd y, true) by rw [HC.out, if_pos ⟨by trivial, HY.out⟩])
              go_wp2_with fail
              refine (refTextL_is _ _ m HV2.out HFO.out.1 HFO.out.2 y HY.out).mono ?_
              rintro e w3 ⟨rfl, hb3⟩
              have HR3 := Lib.hid (HR2.out.below hb3 (Nat.le_refl _))
              have HW3 := Lib.hid (HW2.out.trans (hb3.mono HW2.out.size))
              clear hb3
              go_wp2
              exact bodyPost_ret (v := .tuple #[.slice A5 L5 c5, .bool true]) (by simp [results, Tryz.results6, go_sem]) rfl ⟨_, by rw [HV.out], by rw [HV.out]; exact HR3.out, HW3.out⟩
            · have f3 : (y.toList == t.toList) = false := by rw [beq_eq_false_iff_ne]; intro e; exact e1 (toList_eq.1 e)
              have f4 : ¬ y.toList = t.toList := fun e => e1 (toList_eq.1 e)
              have HV := Lib.hid (show readS t = ([], false) by rw [HC.out, if_neg (fun h => e1 (by rw [← HY.out]; exact h.2))])
              go_wp2_with fail
              refine (refTextL_is _ _ m HV2.out HFO.out.1 HFO.out.2 y HY.out).mono ?_
              rintro e w3 ⟨rfl, hb3⟩
              have HW3 := Lib.hid (HW2.out.trans (hb3.mono HW2.out.size))
              clear hb3
              go_wp2
              exact bodyPost_ret (v := .tuple #[.slice (some ⟨w.heap.size, 0, none⟩) 0 0, .bool false]) (by simp [results, Tryz.results6, go_sem]) rfl ⟨_, by rw [HV.out], by rw [HV.out]; exact RowD.empty' _ _ (Nat.zero_le _), HW3.out⟩
end Go.Proofs.YtdijkekglaimfaaGreatDoor.Sq

/- SpansReads' walk. -/
namespace Go.Proofs.YtdijkekglaimfaaGreatDoor.Sq
open Go.RowKit Rc Ver Ss

set_option maxRecDepth 100000 in
set_option maxHeartbeats 1600000 in
theorem spansReads_w (t : ByteArray) (_ht : t.size ≤ maxLen) (w : World) :
    Calls Tryz.prog 3 #[.string t] w fun e w' => e = .returned (.bool true) ∧ RowKit.Below w.heap.size w w' := by
  by_cases hl : 1000 < t.size
  · have g1 : (1000 : Int) < (t.size : Int) := by omega
    go_enter Tryz.func3, Tryz.ntmps3
    go_wp2_with fail
    refine (fixed3_any _).mono ?_
    rintro e w1 ⟨rfl, h1⟩
    have H1 := Lib.hid h1
    clear h1
    go_wp2
    go_ret
    exact ⟨rfl, H1.out⟩
  · have g1 : ¬ (1000 : Int) < (t.size : Int) := by omega
    obtain ⟨m, q, hr⟩ : ∃ m q, readS t = (m, q) := ⟨_, _, rfl⟩
    have HR := Lib.hid hr
    clear hr
    go_enter Tryz.func3, Tryz.ntmps3
    go_wp2_with fail
    refine (read_any t (by omega) w).mono ?_
    rintro e w1 ⟨v1, rfl, hv1, hb1⟩
    obtain ⟨A1, L1, c1, rfl⟩ := hv1.sl
    rw [HR.out] at hv1
    rw [HR.out]
    have HV1 := Lib.hid hv1
    have HB1 := Lib.hid hb1
    clear hv1 hb1
    go_wp2_with fail
    refine (refReadL_is t (by omega) _).mono ?_
    rintro e w2 ⟨v2, rfl, hv2, hb2⟩
    obtain ⟨A2, L2, c2, rfl⟩ := hv2.sl
    rw [HR.out] at hv2
    rw [HR.out]
    have HV1b := Lib.hid (HV1.out.below hb2 (Nat.le_refl _))
    have HV2 := Lib.hid hv2
    have HB2 := Lib.hid (HB1.out.trans (hb2.mono HB1.out.size))
    clear hv2 hb2
    go_wp2_with fail
    refine (fixed3_any _).mono ?_
    rintro e w3 ⟨rfl, hb3⟩
    have HV1c := Lib.hid (HV1b.out.below hb3 (Nat.le_refl _))
    have HV2c := Lib.hid (HV2.out.below hb3 (Nat.le_refl _))
    have HB3 := Lib.hid (HB2.out.trans (hb3.mono HB2.out.size))
    clear hb3
    have HML := Lib.hid (show m.length ≤ 16 by have := readS_len t; rw [HR.out] at this; exact this)
    go_wp2_with fail
    refine (refSame_is _ _ _ m m HV1c.out HV2c.out true (by simp)).mono ?_
    rintro e w4 ⟨rfl, hb4⟩
    have HV1d := Lib.hid (HV1c.out.below hb4 (Nat.le_refl _))
    have HB4 := Lib.hid (HB3.out.trans (hb4.mono HB3.out.size))
    clear hb4
    cases q with
    | false =>
      go_wp2
      go_ret
      exact ⟨rfl, HB4.out⟩
    | true =>
      have HT := Lib.hid (show textF m = t by have := text_readS (t := t) (by rw [HR.out]); rw [HR.out] at this; exact this)
      go_wp2_with fail
      refine (text_is _ _ m HV1d.out (by have := HML.out; omega) t HT.out).mono ?_
      rintro e w5 ⟨rfl, hb5⟩
      have HB5 := Lib.hid (HB4.out.trans (hb5.mono HB4.out.size))
      clear hb5
      go_wp2
      go_ret
      exact ⟨rfl, HB5.out⟩
end Go.Proofs.YtdijkekglaimfaaGreatDoor.Sq
