/- strings.Split at a line's end: no fact on any variable of the library's is wanted. -/
import Derived.Test.YtbgamneoghhfpaaDoorLxMem
import Derived.Test.YtbgamneoghhfpaaDoorShelf
import Derived.Lib.SplitLaws
namespace Go.Proofs.YtbgamneoghhfpaaDoor.Lx
open Go.RowKit

theorem index_one (c : UInt8) : ∀ l : Bs, Lib.index l [c] = Lib.indexByte l c
  | [] => rfl
  | b :: l => by
    rw [Lib.index, Lib.indexByte, index_one c l]
    by_cases h : b == c
    · have h' : c = b := by have : b = c := by simpa using h
                            exact this.symm
      subst h'; simp [List.isPrefixOf]
    · have h2 : ¬ c = b := fun e => h (by simp [e])
      have hp : ([c] : Bs).isPrefixOf (b :: l) = false := by simp [List.isPrefixOf, h2]
      rw [hp, if_neg h]; rfl

theorem cut_miss (c : UInt8) : ∀ l : Bs, Lib.indexByte l c = -1 → cut c l = [l]
  | [], _ => rfl
  | b :: l, h => by
    rw [Lib.indexByte] at h
    by_cases hb : b == c
    · rw [if_pos hb] at h; omega
    · rw [if_neg hb] at h
      have hge := Lib.indexByte_ge l c
      have h' : Lib.indexByte l c = -1 := by
        by_cases h2 : Lib.indexByte l c = -1
        · exact h2
        · rw [if_neg (by simpa using h2)] at h; omega
      rw [cut, if_neg hb, cut_miss c l h']
theorem cut_hit (c : UInt8) : ∀ (l : Bs) (i : Nat), Lib.indexByte l c = i → cut c l = l.take i :: cut c (l.drop (i + 1)) ∧ l.count c = (l.drop (i + 1)).count c + 1
  | [], i, h => by rw [Lib.indexByte] at h; omega
  | b :: l, i, h => by
    rw [Lib.indexByte] at h
    by_cases hb : b == c
    · rw [if_pos hb] at h
      obtain rfl : i = 0 := by omega
      rw [cut, if_pos hb]
      refine ⟨by simp, ?_⟩
      rw [List.count_cons, if_pos hb]; simp
    · rw [if_neg hb] at h
      have hge := Lib.indexByte_ge l c
      by_cases h2 : Lib.indexByte l c = -1
      · rw [if_pos (by simpa using h2)] at h; omega
      · rw [if_neg (by simpa using h2)] at h
        obtain ⟨j, rfl⟩ : ∃ j, i = j + 1 := ⟨i - 1, by omega⟩
        obtain ⟨h3, h4⟩ := cut_hit c l j (by omega)
        rw [cut, if_neg hb, h3]
        refine ⟨by simp, ?_⟩
        rw [List.count_cons, if_neg hb]; simpa using h4
theorem splitK_cut (c : UInt8) : ∀ (k : Nat) (l : Bs), l.count c ≤ k → Lib.splitK [c] 0 k l = cut c l
  | 0, l, h => by
    have hm : Lib.indexByte l c = -1 := by
      by_cases h2 : Lib.indexByte l c = -1
      · exact h2
      · have hge := Lib.indexByte_ge l c
        obtain ⟨i, hi⟩ : ∃ i : Nat, Lib.indexByte l c = i := ⟨(Lib.indexByte l c).toNat, by omega⟩
        have := (cut_hit c l i hi).2
        omega
    rw [cut_miss c l hm]; rfl
  | k + 1, l, h => by
    unfold Lib.splitK
    rw [index_one]
    by_cases h2 : Lib.indexByte l c = -1
    · rw [if_pos (by simpa using h2), cut_miss c l h2]
    · rw [if_neg (by simpa using h2)]
      have hge := Lib.indexByte_ge l c
      obtain ⟨i, hi⟩ : ∃ i : Nat, Lib.indexByte l c = i := ⟨(Lib.indexByte l c).toNat, by omega⟩
      obtain ⟨h3, h4⟩ := cut_hit c l i hi
      rw [h3, hi]
      have := splitK_cut c k (l.drop (i + 1)) (by omega)
      simp only [Int.toNat_natCast, Nat.add_zero, List.length_cons, List.length_nil, Nat.zero_add]
      rw [this]

theorem countB_one (s : ByteArray) (c : UInt8) : Lib.countB s ⟨#[c]⟩ = s.data.toList.count c := Lib.count_one c s.data.toList
theorem mk_toList (s : ByteArray) : mk s.data.toList = s := by cases s; simp [mk]
theorem splitB_pieces (s : ByteArray) : Lib.splitB ⟨#[10]⟩ 0 (Lib.countB s ⟨#[10]⟩) s = pieces s.data.toList := by
  have h := Lib.splitB_data ⟨#[10]⟩ 0 (Lib.countB s ⟨#[10]⟩) s
  rw [show (⟨#[10]⟩ : ByteArray).data.toList = [10] from rfl, splitK_cut 10 _ _ (by rw [countB_one]; exact Nat.le_refl _)] at h
  unfold pieces
  rw [← h, List.map_map]
  conv => lhs; rw [← List.map_id (Lib.splitB ⟨#[10]⟩ 0 (Lib.countB s ⟨#[10]⟩) s)]
  refine List.map_congr_left fun x _ => ?_
  simp [mk_toList]

theorem cut_len (c : UInt8) : ∀ l : Bs, (cut c l).length = l.count c + 1
  | [] => rfl
  | b :: l => by
    have ih := cut_len c l
    rw [cut]
    by_cases hb : b == c
    · rw [if_pos hb, List.count_cons, if_pos hb]; simp [ih]
    · rw [if_neg hb, List.count_cons, if_neg hb]
      cases hc : cut c l with
      | nil => rw [hc] at ih; simp at ih
      | cons p ps => rw [hc] at ih; simpa using ih

theorem count_le_len (l : Bs) (c : UInt8) : l.count c ≤ l.length := List.count_le_length
theorem split_any (s : ByteArray) (w : World) (hs : s.size ≤ 65536) :
    Calls Tryd.prog 14 #[.string s, .string ⟨#[10]⟩] w fun e w' => ∃ n : Nat, e = .returned (.slice (some ⟨w.heap.size, 0, none⟩) n n) ∧ n = (pieces s.data.toList).length ∧ n ≤ 65537 ∧
      w' = w.alloc (.cells ((pieces s.data.toList).map Value.string).toArray 9) := by
  have hlen : s.data.toList.length = s.size := by simp
  have hcl := count_le_len s.data.toList 10
  have hG : Calls Tryd.prog 20 #[.string s, .string ⟨#[10]⟩, .int .i64 0, .int .i64 (-1)] w fun e w' => ∃ n : Nat, e = .returned (.slice (some ⟨w.heap.size, 0, none⟩) n n) ∧ n = (pieces s.data.toList).length ∧ n ≤ 65537 ∧
      w' = w.alloc (.cells ((pieces s.data.toList).map Value.string).toArray 9) := by
    have hI : ∀ (x : ByteArray) (c : Array Value), x.size ≤ s.size → Calls Tryd.prog (Tryd.lays221_ren.f 143) #[.string x, .string ⟨#[10]⟩] (w.alloc (.cells c (Tryd.lays221_ren.t 9))) fun e w' => e = .returned (.int .i64 (Lib.indexB x ⟨#[10]⟩)) ∧ w' = w.alloc (.cells c (Tryd.lays221_ren.t 9)) := by
      intro x c _
      refine (Tryd.strings_Index_one x 10 _).mono fun e w' ⟨he, hw⟩ => ⟨?_, hw⟩
      rw [he]
      show _ = Ending.returned (Value.int .i64 (Lib.index x.data.toList [10]))
      rw [index_one]
    have hC : Calls Tryd.prog (Tryd.lays221_ren.f 138) #[.string s, .string ⟨#[10]⟩] w fun e w' => e = .returned (.int .i64 (Lib.countB s ⟨#[10]⟩)) ∧ w' = w := by
      refine (Tryd.strings_Count_one s 10 w).mono fun e w' ⟨he, hw⟩ => ⟨?_, hw⟩
      rw [he, countB_one]; rfl
    have hc := Any.strings_genSplit_core Tryd.lays221 (by kernel_rfl) s ⟨#[10]⟩ 0 (-1) (Lib.countB s ⟨#[10]⟩ + 1) w (by omega) (by decide) (Nat.zero_le _) hI hC (by decide) (by decide) (by rw [if_pos (by decide), countB_one]; omega)
    refine hc.mono fun e w' ⟨he, hw⟩ => ?_
    rw [Nat.add_sub_cancel, splitB_pieces] at he hw
    have hpl : (pieces s.data.toList).length = Lib.countB s ⟨#[10]⟩ + 1 := by unfold pieces; rw [List.length_map, cut_len, countB_one]
    rw [← hpl, Lib.cellsOf_full] at hw
    rw [← hpl] at he
    exact ⟨_, he, rfl, by rw [hpl, countB_one]; omega, hw⟩
  have HG := Lib.hid hG
  clear hG hlen hcl
  go_enter Tryd.func14, Tryd.ntmps14
  go_wp2_with fail
  refine HG.out.mono ?_
  rintro e w' ⟨n, rfl, hn, hn2, rfl⟩
  have HN := Lib.hid hn
  clear hn
  go_wp2
  go_ret
  exact ⟨n, rfl, HN.out, hn2, rfl⟩

end Go.Proofs.YtbgamneoghhfpaaDoor.Lx
