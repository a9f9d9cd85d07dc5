/- LexBlanks' walk. -/
import Derived.Test.YtbgamneoghhfpaaDoorLxBytes
import Derived.Test.YtbgamneoghhfpaaDoorLxText
import Derived.Test.YtbgamneoghhfpaaDoorLxBackLaw
import Derived.Deep.RegionWith
import Derived.Deep.CutRange
namespace Go.Proofs.YtbgamneoghhfpaaDoor
/-- A slice of strings among the arguments. -/
def IsStrs (w : World) (A : Option Addr) (len cap : Nat) (zs : List ByteArray) : Prop :=
  (A = none ∧ len = 0 ∧ cap = 0 ∧ zs = []) ∨ ∃ a : Addr, A = some a ∧ len ≤ cap ∧ cap ≤ maxLen ∧ zs.length = cap ∧ (∀ i, i < zs.length → w.cell? (a.add i) = some (.string (zs.getD i ByteArray.empty))) ∧ ∀ s ∈ zs, s.size ≤ maxLen
namespace Lx
open Go.RowKit

def rowsB (zs : List ByteArray) (k : Nat) : List Bs := (zs.take k).map (·.data.toList)
def goodB (ss : List Bs) : Prop := ∀ s ∈ ss, s.length ≤ 200 ∧ ∀ c ∈ s, okB c = true
theorem rowsB_succ {zs : List ByteArray} {k : Nat} (h : k < zs.length) : rowsB zs (k + 1) = rowsB zs k ++ [(zs.getD k ByteArray.empty).data.toList] := by
  unfold rowsB
  rw [List.take_add_one, List.map_append, List.getElem?_eq_getElem h]
  simp [List.getD, List.getElem?_eq_getElem h]
theorem u8_nat {a : Int} (h : (Lit.int .u8 a).wf = true) : ∃ n : Nat, a = n ∧ n ≤ 255 := by
  have : 0 ≤ a ∧ a ≤ 255 := by
    have h' : (decide (0 ≤ a) && decide (a ≤ 255)) = true := h
    simpa using h'
  exact ⟨a.toNat, by omega, by omega⟩
theorem mk_app (a b : Bs) : mk a ++ mk b = mk (a ++ b) := by
  apply ByteArray.ext; apply Array.ext'
  simp [mk, ByteArray.data_append]
theorem mk_of (z : ByteArray) : mk z.data.toList = z := by cases z; simp [mk]

theorem plain_eq (z : ByteArray) : z ++ ⟨#[10]⟩ = mk (z.data.toList ++ [10]) := by
  rw [← mk_app, mk_of]; rfl
theorem more_eq (a b : Nat) (n : Bs) (z : ByteArray) : mk (List.replicate a 32) ++ z ++ mk (List.replicate b 32) ++ ⟨#[35]⟩ ++ mk n ++ ⟨#[10]⟩ = mk (longF a b n z.data.toList ++ [10]) := by
  have e : (z : ByteArray) = mk z.data.toList := (mk_of z).symm
  have e35 : (⟨#[35]⟩ : ByteArray) = mk [35] := rfl
  have e10 : (⟨#[10]⟩ : ByteArray) = mk [10] := rfl
  generalize z.data.toList = s at e ⊢
  rw [e, e35, e10, mk_app, mk_app, mk_app, mk_app, mk_app]
  congr 1
  simp [longF]
set_option maxRecDepth 100000 in
set_option maxHeartbeats 2000000 in
theorem lexBlanks_any (A : Option Addr) (len cap : Nat) (zs : List ByteArray) (a : Int) (wa : (Lit.int .u8 a).wf = true) (b : Int) (wb : (Lit.int .u8 b).wf = true) (note : ByteArray) (hs : note.size ≤ maxLen) (w : World) (hstr : IsStrs w A len cap zs) :
    Calls Tryd.prog 6 #[.slice A len cap, .int .u8 a, .int .u8 b, .string note] w fun e w' => e = .returned (.bool true) ∧ Below w.heap.size w w' := by
  obtain ⟨na, rfl, hna⟩ := u8_nat wa
  obtain ⟨nb, rfl, hnb⟩ := u8_nat wb
  have hcap : len ≤ maxLen := by
    rcases hstr with ⟨_, rfl, _, _⟩ | ⟨_, _, h1, h2, _⟩
    · exact Nat.zero_le _
    · omega
  unfold maxLen at hcap hs
  have HSTR := Lib.hid hstr
  clear hstr wa wb
  by_cases hl : 100 < len
  · have hl' : (100 : Int) < (len : Int) := by omega
    go_enter Tryd.func6, Tryd.ntmps6
    go_wp2_with fail
    refine (fixed_any _).mono ?_
    rintro e w1 ⟨rfl, hb⟩
    go_wp2
    go_ret
    exact ⟨rfl, hb⟩
  · by_cases hn : 200 < note.size
    · have hl' : ¬ (100 : Int) < (len : Int) := by omega
      have hn' : (200 : Int) < (note.size : Int) := by omega
      go_enter Tryd.func6, Tryd.ntmps6
      go_wp2_with fail
      refine (fixed_any _).mono ?_
      rintro e w1 ⟨rfl, hb⟩
      go_wp2
      go_ret
      exact ⟨rfl, hb⟩
    · have hl' : ¬ (100 : Int) < (len : Int) := by omega
      have hn' : ¬ (200 : Int) < (note.size : Int) := by omega
      go_enter Tryd.func6, Tryd.ntmps6
      go_wp2
      obtain ⟨ra, hra⟩ : ∃ r, r = na % 5 := ⟨_, rfl⟩
      obtain ⟨rb, hrb⟩ : ∃ r, r = nb % 5 := ⟨_, rfl⟩
      obtain ⟨nn, hnn⟩ : ∃ n, n = note.data.toList.filter noteB := ⟨_, rfl⟩
      have HRA := Lib.hid hra
      have HRB := Lib.hid hrb
      have HNN := Lib.hid hnn
      have HNS := Lib.hid hn
      have HL := Lib.hid hl
      clear hra hrb hnn hl' hn' hn hl
      go_loopw [9, 10, 31] (fun p m i wr => ∃ k : Nat, k ≤ len ∧ i = .int .i64 k ∧ p = .string (mk (catF (rowsB zs k))) ∧ m = .string (mk (catF ((rowsB zs k).map (longF ra rb nn)))) ∧ goodB (rowsB zs k) ∧ Below w.heap.size w wr) (fun _ _ i _ => len - (intOf i).toNat)
      case atStart => exact ⟨0, Nat.zero_le _, rfl, rfl, rfl, (by intro s hs; cases hs), Below.refl _ _⟩
      case round =>
        obtain ⟨k, hk, rfl, rfl, rfl, hgood, hbw⟩ := hrel
        have HG := Lib.hid hgood
        have HB := Lib.hid hbw
        clear hgood
        by_cases hlt : k < len
        · obtain ⟨ad, rfl, h1, h2, h3, h4, h5⟩ : ∃ ad : Addr, A = some ad ∧ len ≤ cap ∧ cap ≤ maxLen ∧ zs.length = cap ∧ (∀ i, i < zs.length → w.cell? (ad.add i) = some (.string (zs.getD i ByteArray.empty))) ∧ ∀ s ∈ zs, s.size ≤ maxLen := by
            rcases HSTR.out with ⟨_, h0, _, _⟩ | h
            · omega
            · exact h
          have hkz : k < zs.length := by omega
          have hc := h4 k hkz
          have hlt2 : (ad.add k).block < w.heap.size := by
            simp only [World.cell?] at hc
            split at hc
            · rename_i hx; exact (Array.getElem?_eq_some_iff.1 hx).1
            · cases hc
          have q := (hbw.cell (p := ad.add k) hlt2).trans hc
          have hrs := rowsB_succ hkz
          have hzsz : (zs.getD k ByteArray.empty).size ≤ maxLen := by
            rw [List.getD, List.getElem?_eq_getElem hkz]
            exact h5 _ (List.getElem_mem hkz)
          unfold maxLen at hzsz h2
          generalize zs.getD k ByteArray.empty = z at q hrs hzsz
          have HRS := Lib.hid hrs
          have i0 : (0 : Int) ≤ (k : Int) := by omega
          have i1 : (k : Int) < (len : Int) := by omega
          clear h3 h4 h5 hc hlt2 hrs hbw hkz
          by_cases hz : 200 < z.size
          · have hz' : (200 : Int) < (z.size : Int) := by omega
            go_wp2_with fail
            refine (fixed_any _).mono ?_
            rintro e w1 ⟨rfl, hb⟩
            have HB1 := Lib.hid (HB.out.trans (hb.mono HB.out.size))
            clear hb
            go_wp2
            go_ret
            exact ⟨rfl, HB1.out⟩
          · have hz' : ¬ (200 : Int) < (z.size : Int) := by omega
            have hlen : z.data.toList.length = z.size := by simp
            have HLEN := Lib.hid hlen
            have HZ := Lib.hid hz
            clear hlen
            go_wp2
            clear q hz hz'
            go_loopw [41] (fun i wx => ∃ j : Nat, j ≤ z.size ∧ i = .int .i64 j ∧ (∀ c ∈ z.data.toList.take j, okB c = true) ∧ Below w.heap.size w wx) (fun i _ => z.size - (intOf i).toNat)
            case atStart => exact ⟨0, Nat.zero_le _, rfl, (by intro c hc; simp at hc), HB.out⟩
            case round =>
              obtain ⟨j, hj, rfl, hok, hbx⟩ := hrel
              have HOK := Lib.hid hok
              have HBX := Lib.hid hbx
              clear hok hbx HB
              by_cases hjl : j < z.size
              · have hget := get_byte hjl
                have htk : z.data.toList.take (j + 1) = z.data.toList.take j ++ [z[j]] := by rw [List.take_add_one, hget]; rfl
                have HTK := Lib.hid htk
                have j0 : (0 : Int) ≤ (j : Int) := by omega
                have j1 : (j : Int) < (z.size : Int) := by omega
                clear htk hget
                generalize hbb : z[j] = c at HTK
                by_cases c1 : (c.toNat : Int) < 32
                · go_wp2_with fail
                  refine (fixed_any _).mono ?_
                  rintro e w1 ⟨rfl, hb⟩
                  have HB1 := Lib.hid (HBX.out.trans (hb.mono HBX.out.size))
                  clear hb
                  go_wp2
                  go_ret
                  exact ⟨rfl, HB1.out⟩
                · by_cases c2 : (126 : Int) < (c.toNat : Int)
                  · go_wp2_with fail
                    refine (fixed_any _).mono ?_
                    rintro e w1 ⟨rfl, hb⟩
                    have HB1 := Lib.hid (HBX.out.trans (hb.mono HBX.out.size))
                    clear hb
                    go_wp2
                    go_ret
                    exact ⟨rfl, HB1.out⟩
                  · by_cases c3 : (c.toNat : Int) = 35
                    · go_wp2_with fail
                      refine (fixed_any _).mono ?_
                      rintro e w1 ⟨rfl, hb⟩
                      have HB1 := Lib.hid (HBX.out.trans (hb.mono HBX.out.size))
                      clear hb
                      go_wp2
                      go_ret
                      exact ⟨rfl, HB1.out⟩
                    · have hokc : okB c = true := by unfold okB; simp; omega
                      have HOKC := Lib.hid hokc
                      clear hokc
                      have c3' : ((c.toNat : Int) == 35) = false := by simpa using c3
                      go_wp2
                      go_roundw
                      case rel =>
                        refine ⟨j + 1, by omega, by go_num, ?_, HBX.out⟩
                        rw [HTK.out]
                        intro d hd
                        rcases List.mem_append.1 hd with hd | hd
                        · exact HOK.out d hd
                        · rw [List.mem_singleton] at hd; subst hd; exact HOKC.out
                      case measure => simp [intOf]; omega
              · have hjz : j = z.size := by omega
                subst hjz
                have hzl := HLEN.out
                have HZK := Lib.hid (show ∀ c ∈ z.data.toList, okB c = true by
                  have h := HOK.out
                  rwa [← hzl, List.take_length] at h)
                have hcl := catF_len 200 (rowsB zs k) (fun s hs => (HG.out s hs).1)
                have hrl : (rowsB zs k).length ≤ 100 := by
                  unfold rowsB; rw [List.length_map, List.length_take]
                  have := HL.out; omega
                have hnl : nn.length ≤ 200 := by
                  rw [HNN.out]
                  have h1 := List.length_filter_le noteB note.data.toList
                  have h2 : note.data.toList.length = note.size := by simp
                  have := HNS.out
                  omega
                have hra5 : ra < 5 := by rw [HRA.out]; exact Nat.mod_lt _ (by decide)
                have hrb5 : rb < 5 := by rw [HRB.out]; exact Nat.mod_lt _ (by decide)
                have hcm := catF_len 410 ((rowsB zs k).map (longF ra rb nn)) (fun t ht => by
                  obtain ⟨s, h, rfl⟩ := List.mem_map.1 ht
                  have := (HG.out s h).1
                  unfold longF; simp; omega)
                rw [List.length_map] at hcm
                have hz200 : z.size ≤ 200 := by have := HZ.out; omega
                obtain ⟨P, hP⟩ : ∃ P, P = mk (catF (rowsB zs k)) := ⟨_, rfl⟩
                obtain ⟨M, hM⟩ : ∃ M, M = mk (catF ((rowsB zs k).map (longF ra rb nn))) := ⟨_, rfl⟩
                obtain ⟨B1, hB1⟩ : ∃ B, B = mk (List.replicate ra 32) := ⟨_, rfl⟩
                obtain ⟨B2, hB2⟩ : ∃ B, B = mk (List.replicate rb 32) := ⟨_, rfl⟩
                obtain ⟨C, hC⟩ : ∃ C, C = mk nn := ⟨_, rfl⟩
                have sP : P.size ≤ 100000 := by rw [hP, mk_size]; omega
                have sM : M.size ≤ 100000 := by rw [hM, mk_size]; omega
                have sB1 : B1.size ≤ 4 := by rw [hB1, mk_size, List.length_replicate]; omega
                have sB2 : B2.size ≤ 4 := by rw [hB2, mk_size, List.length_replicate]; omega
                have sC : C.size ≤ 200 := by rw [hC, mk_size]; exact hnl
                have s10 : (⟨#[10]⟩ : ByteArray).size = 1 := rfl
                have s35 : (⟨#[35]⟩ : ByteArray).size = 1 := rfl
                have a1 : ∀ W : World, (Op.stringOp .add z ⟨#[10]⟩).run Tryd.prog W = .ok (.string (z ++ ⟨#[10]⟩)) W := fun W => run_string_add_sum W _ _ (by omega)
                have a2 : ∀ W : World, (Op.stringOp .add P (z ++ ⟨#[10]⟩)).run Tryd.prog W = .ok (.string (P ++ (z ++ ⟨#[10]⟩))) W := fun W => run_string_add_sum W _ _ (by rw [ByteArray.size_append]; omega)
                have a3 : ∀ W : World, (Op.stringOp .add B1 z).run Tryd.prog W = .ok (.string (B1 ++ z)) W := fun W => run_string_add_sum W _ _ (by omega)
                have a4 : ∀ W : World, (Op.stringOp .add (B1 ++ z) B2).run Tryd.prog W = .ok (.string (B1 ++ z ++ B2)) W := fun W => run_string_add_sum W _ _ (by rw [ByteArray.size_append]; omega)
                have a5 : ∀ W : World, (Op.stringOp .add (B1 ++ z ++ B2) ⟨#[35]⟩).run Tryd.prog W = .ok (.string (B1 ++ z ++ B2 ++ ⟨#[35]⟩)) W := fun W => run_string_add_sum W _ _ (by rw [ByteArray.size_append, ByteArray.size_append]; omega)
                have a6 : ∀ W : World, (Op.stringOp .add (B1 ++ z ++ B2 ++ ⟨#[35]⟩) C).run Tryd.prog W = .ok (.string (B1 ++ z ++ B2 ++ ⟨#[35]⟩ ++ C)) W := fun W => run_string_add_sum W _ _ (by rw [ByteArray.size_append, ByteArray.size_append, ByteArray.size_append]; omega)
                have a7 : ∀ W : World, (Op.stringOp .add (B1 ++ z ++ B2 ++ ⟨#[35]⟩ ++ C) ⟨#[10]⟩).run Tryd.prog W = .ok (.string (B1 ++ z ++ B2 ++ ⟨#[35]⟩ ++ C ++ ⟨#[10]⟩)) W := fun W => run_string_add_sum W _ _ (by rw [ByteArray.size_append, ByteArray.size_append, ByteArray.size_append, ByteArray.size_append]; omega)
                have a8 : ∀ W : World, (Op.stringOp .add M (B1 ++ z ++ B2 ++ ⟨#[35]⟩ ++ C ++ ⟨#[10]⟩)).run Tryd.prog W = .ok (.string (M ++ (B1 ++ z ++ B2 ++ ⟨#[35]⟩ ++ C ++ ⟨#[10]⟩))) W := fun W => run_string_add_sum W _ _ (by rw [ByteArray.size_append, ByteArray.size_append, ByteArray.size_append, ByteArray.size_append, ByteArray.size_append]; omega)
                rw [← hP, ← hM]
                have HHP := Lib.hid hP
                have HHM := Lib.hid hM
                have HH1 := Lib.hid hB1
                have HH2 := Lib.hid hB2
                have HHC := Lib.hid hC
                have hNS := HNS.out
                have hnsz : note.size ≤ 200 := by omega
                clear hP hM hB1 hB2 hC hcl hrl hnl hra5 hrb5 hcm hzl hNS sP sM sB1 sB2 sC s10 s35
                have HPE := Lib.hid (show Value.string (P ++ (z ++ ⟨#[10]⟩)) = .string (mk (catF (rowsB zs (k + 1)))) by rw [HRS.out, catF_snoc, HHP.out, plain_eq, mk_app])
                have HME := Lib.hid (show Value.string (M ++ (B1 ++ z ++ B2 ++ ⟨#[35]⟩ ++ C ++ ⟨#[10]⟩)) = .string (mk (catF ((rowsB zs (k + 1)).map (longF ra rb nn)))) by
                  rw [HRS.out, List.map_append, List.map_singleton, catF_snoc, HHM.out, HH1.out, HH2.out, HHC.out, more_eq, mk_app])
                have HGE := Lib.hid (show goodB (rowsB zs (k + 1)) by
                  rw [HRS.out]
                  intro s hs
                  rcases List.mem_append.1 hs with hs | hs
                  · exact HG.out s hs
                  · rw [List.mem_singleton] at hs; subst hs
                    exact ⟨by rw [HLEN.out]; exact hz200, HZK.out⟩)
                clear hz200
                go_upto_region 16 with fail
                have HCL := Lib.hid (show ∀ W : World, Calls Tryd.prog 13 #[.string note] W fun e w' => e = .returned (.string C) ∧ Below W.heap.size W w' from fun W => (clean_any note hnsz W).mono fun e w' ⟨he, hw⟩ => ⟨by rw [he, HHC.out, HNN.out], hw⟩)
                have HBL := Lib.hid (show ∀ W : World, Calls Tryd.prog 12 #[.int .u8 na] W fun e w' => ∃ A L c, e = .returned (.slice A L c) ∧ OwnB w' W.heap.size (.slice A L c) (List.replicate ra 32) ∧ Below W.heap.size W w' from by rw [HRA.out]; exact fun W => blanks_any na W)
                have hq : ∀ (W : World) (B : Nat) (v : Value), OwnB W B v (List.replicate ra 32) → (convert 43 9 v).run Tryd.prog W = .ok (.string B1) W := fun W B v h => by rw [HH1.out]; exact conv_bytes h
                have HQ1 := Lib.hid hq
                have hq2 : ∀ (W : World) (B : Nat) (v : Value), OwnB W B v (List.replicate rb 32) → (convert 43 9 v).run Tryd.prog W = .ok (.string B2) W := fun W B v h => by rw [HH2.out]; exact conv_bytes h
                have HQ2 := Lib.hid hq2
                clear hq hq2
                go_region_with (first
                  | (go_at_call 12; refine (blanks_any _ _).mono ?_; rintro e wn ⟨An, Ln, Cn, rfl, hon, hbn⟩; first
                    | (have HO12 := Lib.hid (HO1.out.below hbn (Nat.le_refl _)); rw [← HRB.out] at hon; have HO2 := Lib.hid hon; have hw2 := HW1.out.trans (hbn.mono HW1.out.size); have HW2 := Lib.hid hw2; have cv2 := HQ2.out _ _ _ HO2.out; have cv12 := HQ1.out _ _ _ HO12.out; clear hon hbn hw2)
                    | (rw [← HRA.out] at hon; have HO1 := Lib.hid hon; have hw1 := (Below.drew HBX.out).trans (hbn.mono HBX.out.size); have HW1 := Lib.hid hw1; have cv1 := HQ1.out _ _ _ HO1.out; clear hon hbn hw1))
                  | (go_at_call 13; refine (HCL.out _).mono ?_; rintro e w3 ⟨rfl, hb3⟩; have HO23 := Lib.hid (HO2.out.below hb3 (Nat.le_refl _)); have HO13 := Lib.hid (HO12.out.below hb3 (Nat.le_refl _)); have hw3 := HW2.out.trans (hb3.mono HW2.out.size); have HW3 := Lib.hid hw3; have cv23 := HQ2.out _ _ _ HO23.out; have cv13 := HQ1.out _ _ _ HO13.out; clear hb3 hw3))
                all_goals (
                  go_wp2_with fail
                  go_roundw
                  case rel => exact ⟨k + 1, by omega, by go_num, HPE.out, HME.out, HGE.out, HW3.out⟩
                  case measure => simp [intOf]; omega)
        · obtain rfl : k = len := by omega
          have hsim : Sim (lexS (mk (catF (rowsB zs k)))) (lexS (mk (catF ((rowsB zs k).map (longF ra rb nn))))) := by
            refine lex_sim (by rw [HRA.out]; exact Nat.mod_lt _ (by decide)) (by rw [HRB.out]; exact Nat.mod_lt _ (by decide)) ?_ ?_ ?_ HG.out
            · intro c hc
              rw [HNN.out] at hc
              exact (List.mem_filter.1 hc).2
            · rw [HNN.out]
              have h1 := List.length_filter_le noteB note.data.toList
              have h2 : note.data.toList.length = note.size := by simp
              have := HNS.out
              omega
            · unfold rowsB
              rw [List.length_map, List.length_take]
              have := HL.out
              omega
          generalize mk (catF (rowsB zs k)) = P at hsim
          generalize mk (catF ((rowsB zs k).map (longF ra rb nn))) = M at hsim
          rcases hsim with ⟨x, c, c', e, e1, e2⟩ | ⟨ls, ls', e1, e2, ht⟩
          · have hx := lex_err e1
            have hxn : ((e : Int) != 0) = true := by simp; omega
            have hee : ((e : Int) != (e : Int)) = false := by simp
            have H1 := Lib.hid (code_inl e1)
            have H2 := Lib.hid (code_inl e2)
            clear e1 e2 hx hbw
            go_wp2_with fail
            refine (lines_uni P _ x c e [] H1.out).mono ?_
            rintro e' w1 ⟨A1, n1, cap1, rfl, hl1, hb1⟩
            obtain rfl : n1 = 0 := hl1.num'
            have hbt := HB.out.trans (hb1.mono HB.out.size)
            have HB1 := Lib.hid (hbt.alloc hbt.size (.cells #[.int .i64 (x : Nat), .int .i64 (c : Nat)] 25))
            clear hl1 hb1 hbt
            go_wp2_with fail
            refine (lines_uni M _ x c' e [] H2.out).mono ?_
            rintro e' w2 ⟨A2, n2, cap2, rfl, hl2, hb2⟩
            obtain rfl : n2 = 0 := hl2.num'
            have hbt := HB1.out.trans (hb2.mono HB1.out.size)
            have HB2 := Lib.hid (hbt.alloc hbt.size (.cells #[.int .i64 (x : Nat), .int .i64 (c' : Nat)] 25))
            clear hl2 hb2 hbt
            go_wp2_with fail
            refine (fixed_any _).mono ?_
            rintro e' w3 ⟨rfl, hb3⟩
            have HB3 := Lib.hid (HB2.out.trans (hb3.mono HB2.out.size))
            clear hb3
            go_wp2
            go_ret
            exact ⟨rfl, HB3.out⟩
          · obtain ⟨_, _, t1⟩ := lex_good e1
            obtain ⟨_, _, t2⟩ := lex_good e2
            have HTX := Lib.hid (show mk (textS ls') = mk (textS ls) by rw [textS_F, textS_F, textF_texts ls ls' ht])
            have HLN := Lib.hid (ltexts_len ht)
            have H1 := Lib.hid (code_inr e1)
            have H2 := Lib.hid (code_inr e2)
            have hP : P.size ≤ 65536 := by
              unfold lexS at e1
              split at e1
              · cases e1
              · omega
            have hM : M.size ≤ 65536 := by
              unfold lexS at e2
              split at e2
              · cases e2
              · omega
            have T1 := Lib.hid (show (textS ls).length ≤ 70368744177664 by omega)
            have T2 := Lib.hid (show (textS ls').length ≤ 70368744177664 by omega)
            clear e1 e2 hbw t1 t2 hP hM ht
            go_wp2_with fail
            refine (lines_uni P _ 0 0 0 ls H1.out).mono ?_
            rintro e' w1 ⟨A1, n1, cap1, rfl, hl1, hb1⟩
            have HN1 := Lib.hid hl1.num'
            have hA1 := (Below.refl w1.heap.size w1).alloc (Nat.le_refl _) (.cells #[.int .i64 0, .int .i64 0] 25)
            have HL1 := Lib.hid (hl1.below hA1 (Nat.le_refl _))
            have hbt := HB.out.trans (hb1.mono HB.out.size)
            have HB1 := Lib.hid (hbt.alloc hbt.size (.cells #[.int .i64 0, .int .i64 0] 25))
            clear hl1 hb1 hA1 hbt
            go_wp2_with fail
            refine (lines_uni M _ 0 0 0 ls' H2.out).mono ?_
            rintro e' w2 ⟨A2, n2, cap2, rfl, hl2, hb2⟩
            obtain rfl : n2 = n1 := by rw [hl2.num', HN1.out, HLN.out]
            have hA2 := (Below.refl w2.heap.size w2).alloc (Nat.le_refl _) (.cells #[.int .i64 0, .int .i64 0] 25)
            have HL2 := Lib.hid ((HL1.out.below hb2 (Nat.le_refl _)).below hA2 (Nat.le_refl _))
            have HM2 := Lib.hid (hl2.below hA2 (Nat.le_refl _))
            have hbt := HB1.out.trans (hb2.mono HB1.out.size)
            have HB2 := Lib.hid (hbt.alloc hbt.size (.cells #[.int .i64 0, .int .i64 0] 25))
            have nn' : ((n2 : Int) != (n2 : Int)) = false := by simp
            clear hl2 hb2 hA2 hbt
            go_wp2_with fail
            refine (fixed_any _).mono ?_
            rintro e' w3 ⟨rfl, hb3⟩
            have HB3 := Lib.hid (HB2.out.trans (hb3.mono HB2.out.size))
            have HL3 := Lib.hid (HL2.out.below hb3 (Nat.le_refl _))
            have HM3 := Lib.hid (HM2.out.below hb3 (Nat.le_refl _))
            clear hb3
            go_wp2_with fail
            refine (text_any _ _ ls HL3.out T1.out).mono ?_
            rintro e' w4 ⟨rfl, hb4⟩
            have HB4 := Lib.hid (HB3.out.trans (hb4.mono HB3.out.size))
            have HM4 := Lib.hid (HM3.out.below hb4 (Nat.le_refl _))
            clear hb4
            go_wp2_with fail
            refine (text_any _ _ ls' HM4.out T2.out).mono ?_
            rintro e' w5 ⟨rfl, hb5⟩
            have HB5 := Lib.hid (HB4.out.trans (hb5.mono HB4.out.size))
            rw [HTX.out]
            generalize mk (textS ls) = tt
            have s1 : (tt.toList == tt.toList) = true := by simp
            clear hb5
            go_wp2
            go_ret
            exact ⟨rfl, HB5.out⟩
end Lx
end Go.Proofs.YtbgamneoghhfpaaDoor
