/- The law VersionAround. -/
import Derived.Test.YtiapaipamockaaaVerWalks3
import Derived.Laws.BytesArg
namespace Go.Proofs.Ytiapaipamockaaa.Ver
open Go.RowKit

theorem run_char (w : World) (n : Int) : (convert 43 9 (.slice (some ⟨w.heap.size, 0, none⟩) 1 1)).run Try.prog (w.alloc (.cells #[.int .u8 n] 5)) = .ok (.string (strOfNums [n])) (w.alloc (.cells #[.int .u8 n] 5)) :=
  run_convert_bytes_arg (P := Try.prog) _ 43 5 Try.underlying43 Try.underlying5 w.heap.size 0 1 1 [n] rfl (fun i hi => by
    rw [cell_of_row _ _ _ _ _ _ (heap_alloc_new w _)]
    match i, hi with
    | 0, _ => rfl) 9 Try.underlying9

theorem char_digit (k : Nat) : (strOfNums [48 + (k : Int) % 10]).data.toList.all digB = true := by
  rw [strOfNums_data]
  have h : (48 + (k : Int) % 10).toNat = 48 + k % 10 := by omega
  simp only [List.map_cons, List.map_nil, List.all_cons, List.all_nil, Bool.and_true]
  rw [h]
  have : (UInt8.ofNat (48 + k % 10)).toNat = 48 + k % 10 := by
    rw [UInt8.toNat_ofNat_of_lt']; have := Nat.mod_lt k (show 10 > 0 by omega); show _ < 256; omega
  unfold digB
  rw [this]
  simp; omega

theorem decimal_any (n : Nat) (h1 : n ≤ 4294967295) (w : World) :
    Calls Try.prog 19 #[.int .u32 n] w fun e w' => ∃ s : ByteArray, e = .returned (.string s) ∧ digits s.data.toList = true ∧ s.size ≤ n + 1 ∧ Below w.heap.size w w' := by
  go_enter Try.func19, Try.ntmps19
  go_wp2_with fail
  go_loopw [3, 0] (fun s i wr => ∃ (t : ByteArray) (k : Nat), s = .string t ∧ i = .int .u32 k ∧ k ≤ 4294967295 ∧ t.size + k ≤ n ∧ Below w.heap.size w wr ∧ Hid (t.data.toList.all digB = true)) (fun _ i _ => (intOf i).toNat)
  case atStart => exact ⟨_, n, rfl, rfl, h1, Nat.le_of_eq (Nat.zero_add _), Below.refl _ _, Lib.hid rfl⟩
  case round =>
    rename_i wr
    obtain ⟨t, k, rfl, rfl, hk, hsz, hbel, hall⟩ := hrel
    have hk0 : (0 : Int) ≤ k := by omega
    have hc := run_char wr (48 + (k : Int) % 10)
    have hone : (strOfNums [48 + (k : Int) % 10]).size = 1 := strOfNums_size _
    have hd := Lib.hid (char_digit k)
    have hbig : ¬ 9223372036854775807 < (strOfNums [48 + (k : Int) % 10]).size + t.size := by omega
    have hsz2 : (strOfNums [48 + (k : Int) % 10] ++ t).size = 1 + t.size := by rw [ByteArray.size_append, hone]
    have hall2 : Hid ((strOfNums [48 + (k : Int) % 10] ++ t).data.toList.all digB = true) := Lib.hid (by
      rw [ByteArray.data_append, Array.toList_append, List.all_append, hd.out, hall.out]; rfl)
    have hb2 : ∀ o, Below w.heap.size w (wr.alloc o) := fun o => hbel.alloc hbel.size o
    generalize strOfNums [48 + (k : Int) % 10] = d at hc hone hbig hsz2 hall2
    clear hd hone
    by_cases hz : k < 10
    · have hz' : ((k : Int) / 10 == 0) = true := by rw [beq_iff_eq]; omega
      have hdig : Hid (digits (d ++ t).data.toList = true) := Lib.hid (by
        unfold digits
        rw [hall2.out]
        cases hc : (d ++ t).data.toList with
        | nil =>
          have h := size_toList (d ++ t)
          rw [hc, List.length_nil] at h; omega
        | cons a b => rfl)
      clear hz
      go_wp2
      go_ret
      exact ⟨_, rfl, hdig.out, by omega, hb2 _⟩
    · have hz' : ((k : Int) / 10 == 0) = false := by rw [beq_eq_false_iff_ne]; omega
      have hlt : k / 10 < k := by omega
      have hcast := Lib.hid (show (k : Int) / 10 = ((k / 10 : Nat) : Int) by omega)
      go_wp2
      go_roundw
      case rel => exact ⟨_, k / 10, rfl, by rw [hcast.out], by omega, by omega, hb2 _, hall2⟩
      case measure => simp [intOf]; omega

end Go.Proofs.Ytiapaipamockaaa.Ver
