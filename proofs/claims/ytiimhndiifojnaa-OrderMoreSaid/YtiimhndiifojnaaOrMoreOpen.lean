/- Rows of numbers that come in, none of them longer than the form's reach. -/
import Derived.Test.YtiimhndiifojnaaOrMoreLaw
import Derived.Test.YtiimhndiifojnaaOrOpen
import Derived.SizedLaws
namespace Go.Proofs.Ytiimhndiifojnaa.Or
open Go.RowKit Go.ChangeShapes Go.WideShapes Go.Deep Go.Joins

def RowsIn3 (w : World) (A : Option Addr) (n cap : Nat) (l : (Nat → Nat) × (Nat → Nat → Int)) : Prop := n ≤ cap ∧ cap ≤ maxLen ∧ Rows3At w A n l.1 l.2

theorem mem_weightsAll {H : Type} {P : Program} {e : TypeId} {m : Nat} {d : DataW H} : ∀ {l : List (DataW H)}, d ∈ l → m ∈ d.weights P e → m ∈ DataW.weightsAll P e l
  | y :: l, hd, hm => by
    rw [DataW.weightsAll, List.mem_append]
    rcases List.mem_cons.1 hd with rfl | hd
    · exact .inl hm
    · exact .inr (mem_weightsAll hd hm)
theorem int_bytes : Try.prog.bytesOf 3 = 8 := by kernel_rfl

theorem open_rows3 {H : Type} {enc : TypeId × Value → H} {W : World} {base : Nat} {held : Bool} {fuel : Nat} {cs : List Value} {x : DataW H × List MemPlace}
    (h : DataW.trod enc Try.prog W base (fun _ => true) held fuel 22 cs = some x) (hz : ∀ m ∈ x.1.weights Try.prog 22, m ≤ reachBytes) : ∃ A n cap l, cs = [.slice A n cap] ∧ RowsIn3 W A n cap l := by
  rcases open_int_rows Try.underlying22 Try.underlying23 Try.underlying3 (by kernel_rfl) (by kernel_rfl) h with ⟨h0, _⟩ | ⟨a, len, cap, A, L, C, Zs, hcs, _, hl, hm, hx, hi⟩
  · exact ⟨none, 0, 0, (fun _ => 0, fun _ _ => 0), h0, Nat.le_refl _, Nat.zero_le _, .inl rfl⟩
  · refine ⟨some a, len, cap, (L, fun r i => (Zs r).getD i 0), hcs, hl, hm, ?_⟩
    by_cases h0 : len = 0
    · exact .inl h0
    · right
      obtain ⟨e1, e2, e3⟩ := addr_lit (hi 0 (by omega)).1
      refine ⟨a.block, a.off, by rw [← e1], fun r hr => ?_, fun r hr => ?_⟩
      · show L r ≤ maxLen ∧ a.block < W.heap.size ∧ ∃ x c, W.cell? ⟨a.block, a.off + r, none⟩ = some (.slice x (L r) c) ∧ L r ≤ c ∧ ∀ i, i < L r → (Lit.int .i64 ((Zs r).getD i 0)).wf = true ∧ ∃ bb oo, x = some ⟨bb, oo, none⟩ ∧ bb < W.heap.size ∧ W.cell? ⟨bb, oo + i, none⟩ = some (.int .i64 ((Zs r).getD i 0))
        obtain ⟨r1, r2, r3, r4, r5, r6, r7⟩ := hi r (by omega)
        rw [e3] at r1
        refine ⟨Nat.le_trans r2 r3, e2, A r, C r, r1, r2, fun i hil => ?_⟩
        have hiz : i < (Zs r).length := by omega
        refine ⟨?_, ?_⟩
        · rw [List.getD_eq_getElem?_getD, List.getElem?_eq_getElem hiz]; exact r5 _ (List.getElem_mem hiz)
        · cases hA : A r with
          | none => have := r6 hA; omega
          | some a' =>
            have hc := (r7 a' hA).2 i (by omega)
            obtain ⟨f1, f2, f3⟩ := addr_lit ((r7 a' hA).2 0 (by omega))
            exact ⟨a'.block, a'.off, by rw [← f1], f2, by rw [← f3]; exact hc⟩
      · obtain ⟨r1, r2, r3, r4, r5, r6, r7⟩ := hi r (by omega)
        rw [e3] at r1
        refine ⟨?_, fun x L' c hc hn => ?_⟩
        · show L r ≤ 17592186044416
          cases hA : A r with
          | none => have := r6 hA; omega
          | some a' =>
            have hmem : (intRow .i64 (A r) (L r) (Zs r) : DataW H) ∈ (List.range len).map fun r => intRow .i64 (A r) (L r) (Zs r) := List.mem_map.2 ⟨r, List.mem_range.2 hr, rfl⟩
            have hw : C r * 8 ∈ (intRow .i64 (A r) (L r) (Zs r) : DataW H).weights Try.prog 23 := by
              rw [hA]
              simp only [intRow, DataW.weights, Try.underlying23, int_bytes, lits, List.length_map, List.length_take, List.length_drop]
              refine List.mem_cons.2 (.inl ?_)
              rw [show min (L r) (Zs r).length + ((Zs r).length - L r) = C r by omega]
            have hb := hz (C r * 8) (by
              rw [hx]
              simp only [DataW.weights, Try.underlying22]
              exact List.mem_cons_of_mem _ (List.mem_append_left _ (mem_weightsAll hmem hw)))
            have hrb : reachBytes < 140737488355328 := by decide
            omega
        · rw [r1] at hc
          cases hc
          exact r6 hn
theorem u8_nat {a : Int} (h : (Lit.int .u8 a).wf = true) : ∃ n : Nat, a = n ∧ n ≤ 255 := by
  simp only [Lit.wf, Bool.and_eq_true, decide_eq_true_eq] at h
  have h1 : (0 : Int) ≤ a := h.1
  have h2 : a ≤ 255 := h.2
  exact ⟨a.toNat, by omega, by omega⟩
theorem orderMore_row (A : Option Addr) (n cap : Nat) (l : (Nat → Nat) × (Nat → Nat → Int)) (a b : Int) (ha : (Lit.int .u8 a).wf = true) (hb : (Lit.int .u8 b).wf = true) (w : World) (h : RowsIn3 w A n cap l) :
    Calls Try.prog 3 #[.slice A n cap, .int .u8 a, .int .u8 b] w fun e w' => e = .returned (.bool true) ∧ Below w.heap.size w w' := by
  obtain ⟨fr, rfl, hfr⟩ := u8_nat ha
  obtain ⟨tt, rfl, htt⟩ := u8_nat hb
  exact orderMore_any w A n cap l.1 l.2 fr tt h.1 h.2.1 h.2.2 hfr htt
end Go.Proofs.Ytiimhndiifojnaa.Or
