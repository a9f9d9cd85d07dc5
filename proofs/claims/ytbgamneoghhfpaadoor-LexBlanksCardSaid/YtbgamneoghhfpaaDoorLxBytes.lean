/- Rows of bytes of the call's own; blanks, clean. -/
import Derived.Test.YtbgamneoghhfpaaDoorLxLaw
import Derived.Test.YtbgamneoghhfpaaDoorLxBlankMath
import Derived.Laws.BytesString
import Derived.Lib.BufferWrite
namespace Go.Proofs.YtbgamneoghhfpaaDoor.Lx
open Go.RowKit

def OwnB (w : World) (base : Nat) (v : Value) (l : Bs) : Prop := w.ownsRow base 5 1 v l.length (Lib.byteCells l)
theorem OwnB.below {w w' : World} {base B : Nat} {v : Value} {l : Bs} (h : OwnB w base v l) (hb : Below B w w') (hB : w.heap.size ≤ B) : OwnB w' base v l := own_touch h (Touch.of_below (S := fun _ => False) (hb.mono hB)) (fun _ _ h => h)
theorem OwnB.alloc {w : World} {base : Nat} {v : Value} {l : Bs} (h : OwnB w base v l) (o : Obj) : OwnB (w.alloc o) base v l := h.below ((Below.refl _ _).alloc (Nat.le_refl _) o) (Nat.le_refl _)
theorem OwnB.slice {w : World} {base : Nat} {v : Value} {l : Bs} (h : OwnB w base v l) : ∃ A c, v = .slice A l.length c := by
  rcases own_len h with ⟨rfl, h0⟩ | ⟨g, c, rfl⟩
  · exact ⟨none, 0, by rw [h0]⟩
  · exact ⟨_, c, rfl⟩
theorem byte_info : (Tryd.prog.info? 5).map (fun i => (i.zero, i.size, i.bytes)) = some (some (.int .u8 0), 1, 1) := by kernel_rfl

theorem push_all : ∀ (l : Bs) (s : ByteArray), (l.map fun b => (b.toNat : Int)).foldl (fun r n => r.push (UInt8.ofNat n.toNat)) s = s ++ mk l
  | [], s => by
    apply ByteArray.ext; apply Array.ext'
    simp [mk, ByteArray.data_append]
  | b :: r, s => by
    rw [List.map_cons, List.foldl_cons, push_all r]
    apply ByteArray.ext; apply Array.ext'
    simp [mk, ByteArray.data_push, ByteArray.data_append]
theorem conv_bytes {w : World} {base : Nat} {v : Value} {l : Bs} (h : OwnB w base v l) : (convert 43 9 v).run Tryd.prog w = .ok (.string (mk l)) w := by
  rcases own_len h with ⟨rfl, h0⟩ | ⟨g, c, rfl⟩
  · obtain rfl : l = [] := List.length_eq_zero_iff.1 h0
    rw [run_convert_bytes_string w _ _ 5 none 0 0 Tryd.underlying43 Tryd.underlying5 Tryd.underlying9]
    rfl
  · rw [run_convert_bytes_string w _ _ 5 _ _ _ Tryd.underlying43 Tryd.underlying5 Tryd.underlying9]
    have hl := run_loadCells_list (P := Tryd.prog) w ⟨g, 0, none⟩ (Lib.byteCells l) (World.ownsRow.cells h rfl)
    rw [Lib.byteCells_length] at hl
    have e : Lib.byteCells l = (l.map fun b => (b.toNat : Int)).map (Value.int .u8) := by unfold Lib.byteCells; rw [List.map_map]; rfl
    rw [run_bytesToString w _ _ _ (l.map fun b => (b.toNat : Int)) (by rw [hl, e]), push_all]
    have : ByteArray.empty ++ mk l = mk l := by apply ByteArray.ext; simp
    rw [this]

theorem appB_list {ops : Array Oper} {rest : List Oper} {o : Oper} {a : Act} {Q : Exit → Act → World → Prop} {W : World} {base n blk cp : Nat} {A : Option Addr} {l : Bs} (c : UInt8) (cv : Int) (s y : Operand)
    (hgd : o.guard = none) (ho : o.op = .call { callee := .builtin .append, args := #[s, y], argTypes := #[43, 43] })
    (hs : a.eval s = .slice A n cp) (hown : OwnB W base (.slice A n cp) l) (hx : a.eval y = .slice (some ⟨blk, 0, none⟩) 1 1)
    (hn : W.heap[blk]? = some (.cells #[.int .u8 cv] 5 (0, 0))) (hcv : cv = (c.toNat : Nat)) (hsz : l.length ≤ 65536) (hbase : base ≤ W.heap.size)
    (h : ∀ g m cp' w', OwnB w' base (.slice (some ⟨g, 0, none⟩) m cp') (l ++ [c]) → m = l.length + 1 → W.grownBy w' (Value.slice A n cp).ownBlock → g < w'.heap.size → wpList Tryd.prog ops Q rest (a.put o.dst (.slice (some ⟨g, 0, none⟩) m cp')) w') :
    wpList Tryd.prog ops Q (o :: rest) a W := by
  subst hcv
  obtain ⟨i0, hi0, hz0, hz1, hz2⟩ := info_parts byte_info
  obtain ⟨A', c', e⟩ := hown.slice
  injection e with _ e2 _
  subst e2
  refine wpList_plain hgd fun K hK => ?_
  exact wp_append_lies W s y 43 ho base 5 i0 _ 1 1 Tryd.underlying43 hi0 hz0 hz1 hz2 rfl (by omega) _ l.length (Lib.byteCells l) hs hown ⟨blk, 0, none⟩ 1 1 (Lib.byteCells [c]) hx rfl
    (World.news_of_block (cs := #[.int .u8 (c.toNat : Nat)]) hn) (Lib.byteCells_one _) (by omega) (by unfold maxLen; omega) (by omega) hbase _ rfl (fun g cap w' h1 h2 h3 h4 => hK _ _ (h g _ cap w' (by unfold OwnB; rw [Lib.byteCells_append, List.length_append]; exact h1) rfl h2 h4))

theorem make_bytes (n : Nat) (hn : n ≤ 4) (W : World) : (Instr.makeSlice 43 (.int .u8 n) (.int .u8 n)).run Tryd.prog W = .ok (.slice (some ⟨W.heap.size, 0, none⟩) n n) (W.alloc (.cells (Lib.byteCells (List.replicate n 0)).toArray 5)) := by
  obtain ⟨i0, hi0, hz0, hz1, hz2⟩ := info_parts byte_info
  rw [run_make (P := Tryd.prog) W 43 5 i0 _ Tryd.underlying43 hi0 hz0 .u8 .u8 n n (by omega) (by omega) (by rw [hz2]; omega) (by omega), hz1]
  have e : madeCells (Value.int .u8 0).cells n = (Lib.byteCells (List.replicate n 0)).toArray := by
    apply Array.ext'
    have := toList_madeCells_one (.int .u8 0) n
    rw [show (Value.int .u8 0).cells = #[.int .u8 0] from rfl, this]
    simp [Lib.byteCells]
  simp [e]

def fillB (k r : Nat) : Bs := List.replicate k 32 ++ List.replicate (r - k) 0
theorem fillB_len {k r : Nat} (h : k ≤ r) : (fillB k r).length = r := by unfold fillB; simp; omega
theorem fillB_set {k r : Nat} (h : k < r) : (Lib.byteCells (fillB k r)).set k (.int .u8 32) = Lib.byteCells (fillB (k + 1) r) := by
  unfold fillB
  rw [show r - k = (r - (k + 1)) + 1 by omega, List.replicate_succ, List.replicate_succ', Lib.byteCells_append, Lib.byteCells_append, Lib.byteCells_append]
  rw [List.set_append_right _ _ (by simp [Lib.byteCells])]
  simp [Lib.byteCells]
set_option maxRecDepth 100000 in
set_option maxHeartbeats 1000000 in
theorem blanks_any (n : Nat) (W : World) :
    Calls Tryd.prog 12 #[.int .u8 n] W fun e w' => ∃ A L c, e = .returned (.slice A L c) ∧ OwnB w' W.heap.size (.slice A L c) (List.replicate (n % 5) 32) ∧ Below W.heap.size W w' := by
  have hr : n % 5 < 5 := Nat.mod_lt _ (by decide)
  have t1 : (n : Int).tmod 5 = ((n % 5 : Nat) : Int) := rfl
  generalize n % 5 = r at hr t1
  have hmk := make_bytes r (by omega) W
  go_enter Tryd.func12, Tryd.ntmps12
  go_wp2
  clear hmk t1
  go_loopw [10] (fun i wr => ∃ k : Nat, k ≤ r ∧ i = .int .i64 k ∧ wr.ownsRow W.heap.size 5 1 (.slice (some ⟨W.heap.size, 0, none⟩) r r) r (Lib.byteCells (fillB k r)) ∧ Below W.heap.size W wr) (fun i _ => r - (intOf i).toNat)
  case atStart =>
    refine ⟨0, Nat.zero_le _, rfl, ?_, (Below.refl _ _).alloc (Nat.le_refl _) _⟩
    have := World.ownsRow_lit (base := W.heap.size) (e := 5) (size := 1) W (Lib.byteCells (List.replicate r 0)).toArray r (Nat.le_refl _) (by unfold maxLen; omega) (by simp [Lib.byteCells])
    simpa [fillB] using this
  case round =>
    obtain ⟨k, hk, rfl, hown, hbw⟩ := hrel
    have HO := Lib.hid hown
    have HB := Lib.hid hbw
    by_cases hlt : k < r
    · have hc := hown.cellAt k (by omega)
      obtain ⟨u, hu⟩ : ∃ u, (Lib.byteCells (fillB k r))[k]? = some u := ⟨_, List.getElem?_eq_getElem (by rw [Lib.byteCells_length, fillB_len hk]; exact hlt)⟩
      rw [hu] at hc
      clear hu
      have hf := hown.frozenAt k
      have hs := hown.stored k (.int .u8 32)
      rw [fillB_set hlt] at hs
      have HS := Lib.hid hs.1
      have i0 : (0 : Int) ≤ (k : Int) := by omega
      have i1 : (k : Int) < (r : Int) := by omega
      have HBS := Lib.hid (HB.out.setCell (p := ⟨W.heap.size, k, none⟩) (by simp) (.int .u8 32))
      clear hown hbw hs
      go_wp2
      go_roundw
      case rel => exact ⟨k + 1, by omega, by go_num, HS.out, HBS.out⟩
      case measure => simp [intOf]; omega
    · obtain rfl : k = r := by omega
      clear hown hbw
      go_wp2
      go_ret
      refine ⟨_, _, _, rfl, ?_, HB.out⟩
      have h := HO.out
      have e : fillB k k = List.replicate k 32 := by simp [fillB]
      rw [e] at h
      unfold OwnB
      rw [List.length_replicate]
      exact h

set_option maxRecDepth 100000 in
set_option maxHeartbeats 1000000 in
theorem clean_any (s : ByteArray) (hs : s.size ≤ 200) (W : World) :
    Calls Tryd.prog 13 #[.string s] W fun e w' => e = .returned (.string (mk (s.data.toList.filter noteB))) ∧ Below W.heap.size W w' := by
  have hlen : s.data.toList.length = s.size := by simp
  have HLEN := Lib.hid hlen
  clear hlen
  go_enter Tryd.func13, Tryd.ntmps13
  go_wp2
  go_loopw [3, 8] (fun t i wr => ∃ (k n c : Nat) (A : Option Addr), k ≤ s.size ∧ i = .int .i64 k ∧ t = .slice A n c ∧ OwnB wr W.heap.size (.slice A n c) ((s.data.toList.take k).filter noteB) ∧ Below W.heap.size W wr) (fun _ i _ => s.size - (intOf i).toNat)
  case atStart =>
    refine ⟨0, 0, 0, some ⟨W.heap.size, 0, none⟩, Nat.zero_le _, rfl, rfl, ?_, (Below.refl _ _).alloc (Nat.le_refl _) _⟩
    exact World.ownsRow_made (base := W.heap.size) (e := 5) (size := 1) W #[] 0 (Nat.le_refl _) (Nat.zero_le _) (by simp)
  case round =>
    obtain ⟨k, n, c, A, hk, rfl, rfl, hown, hbw⟩ := hrel
    have HO := Lib.hid hown
    have HB := Lib.hid hbw
    clear hown hbw
    by_cases hlt : k < s.size
    · have hget := get_byte hlt
      have htk : s.data.toList.take (k + 1) = s.data.toList.take k ++ [s[k]] := by rw [List.take_add_one, hget]; rfl
      have HTK := Lib.hid htk
      have i0 : (0 : Int) ≤ (k : Int) := by omega
      have i1 : (k : Int) < (s.size : Int) := by omega
      clear htk hget
      generalize hb : s[k] = b at HTK
      have hfo : (s.data.toList.take (k + 1)).filter noteB = (s.data.toList.take k).filter noteB ++ (if noteB b then [b] else []) := by
        rw [HTK.out, List.filter_append]
        cases hn : noteB b <;> simp [hn]
      have HFO := Lib.hid hfo
      have hfl : ((s.data.toList.take k).filter noteB).length ≤ 65536 := by
        have := List.length_filter_le noteB (s.data.toList.take k)
        rw [List.length_take] at this; omega
      have HFL := Lib.hid hfl
      clear hfo hfl HTK
      by_cases h32 : 32 ≤ (b.toNat : Int)
      · by_cases h126 : (b.toNat : Int) ≤ 126
        · have hnb : noteB b = true := by unfold noteB; simp; omega
          rw [hnb] at HFO
          have HOA := Lib.hid (HO.out.alloc (.cells #[.int .u8 (b.toNat : Int)] 5))
          have HBA := Lib.hid (HB.out.alloc HB.out.size (.cells #[.int .u8 (b.toNat : Int)] 5))
          clear hnb
          go_wp2_with (at_builtin; refine appB_list (W := wr.alloc (.cells #[.int .u8 (b.toNat : Int)] 5)) (base := W.heap.size) (l := (s.data.toList.take k).filter noteB) b (b.toNat : Int) (.tmp 21) (.tmp 25) rfl rfl rfl HOA.out rfl (heap_alloc_new wr _) rfl HFL.out HBA.out.size ?_; intro g7 m7 c7 w7 hown7 hm7 hgrow7 hlt7; have HO7 := Lib.hid hown7; have HB7 := Lib.hid (HBA.out.grown hgrow7 HBA.out.size (fun g hg => (HOA.out.lt g hg).1)); clear hown7 hm7 hgrow7 hlt7)
          go_roundw
          case rel => exact ⟨k + 1, m7, c7, some ⟨g7, 0, none⟩, by omega, by go_num, rfl, by rw [HFO.out]; exact HO7.out, HB7.out⟩
          case measure => simp [intOf]; omega
        · have hnb : noteB b = false := by unfold noteB; simp; omega
          rw [hnb] at HFO
          clear hnb
          go_wp2
          go_roundw
          case rel => exact ⟨k + 1, n, c, A, by omega, by go_num, rfl, by rw [HFO.out]; simpa using HO.out, HB.out⟩
          case measure => simp [intOf]; omega
      · have hnb : noteB b = false := by unfold noteB; simp; omega
        rw [hnb] at HFO
        clear hnb
        go_wp2
        go_roundw
        case rel => exact ⟨k + 1, n, c, A, by omega, by go_num, rfl, by rw [HFO.out]; simpa using HO.out, HB.out⟩
        case measure => simp [intOf]; omega
    · obtain rfl : k = s.size := by omega
      have hcv := conv_bytes HO.out
      rw [show s.data.toList.take s.size = s.data.toList by rw [← HLEN.out, List.take_length]] at hcv
      clear hk hlt
      go_wp2
      go_ret
      exact ⟨rfl, HB.out⟩
end Go.Proofs.YtbgamneoghhfpaaDoor.Lx
