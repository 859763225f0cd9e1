/- The walk of WireUnique: for every string, integer and byte it returns true, and nothing that was there has changed. Conditions: the integer is an int64, the table reads as the program lays it. -/
import Derived.RegionTactic
import Derived.ChangeAlike
import Derived.Test.YthhjdcpodaledaaDoorTruncWalk
namespace Go.Proofs.YthhjdcpodaledaaDoor
open Go.RowKit

theorem str_none (s : ByteArray) (p : Nat) (w : World) (hs : s.size ≤ 9223372036854775807) (hp : p ≤ s.size) (h : getS s.data.toList p = none) :
    Calls Tryd.prog 17 #[.string s, .int .i64 (p : Int)] w fun r w' => r = .returned (.tuple #[.string ⟨#[]⟩, .int .i64 0, .int .i64 10]) ∧ Below w.heap.size w w' := by
  have := str_all s p w hs
  have e : strF s.data.toList p = ([], 0, 10) := by
    unfold strF
    rw [if_neg (by simp; omega), Int.toNat_natCast, h]
  rw [e] at this
  exact this
theorem getS_of_none (l : List UInt8) (p : Nat) (h : getI l p = none) : getS l p = none := by unfold getS; rw [h]
theorem putString_list (v : List UInt8) (w : World) (h : v.length ≤ 65536) :
    Calls Tryd.prog 19 #[.string ⟨v.toArray⟩] w fun e W' => e = .returned (.tuple #[.string ⟨(putS v).toArray⟩, .int .i64 0]) ∧ Below w.heap.size w W' := by
  have := putString_yes ⟨v.toArray⟩ w (by rw [mk_size]; exact h)
  simpa using this
theorem putString_empty (w : World) :
    Calls Tryd.prog 19 #[.string ⟨#[]⟩] w fun e W' => e = .returned (.tuple #[.string ⟨(putS []).toArray⟩, .int .i64 0]) ∧ Below w.heap.size w W' :=
  putString_yes ⟨#[]⟩ w (by decide)
theorem piece_eq (t : ByteArray) (q m : Nat) (l : List UInt8) (h : (t.data.toList.take m).drop q = l) : ((t.extract q m).toList == l) = true := by
  rw [ByteArray.toList_eq, Lib.extract_data, ← List.drop_take, h]
  simp

set_option maxRecDepth 100000 in
set_option maxHeartbeats 4000000 in
theorem uniq_walk (s : ByteArray) (a : Int) (b : Int) (w : World) (hT : Table w) (z1 : s.size ≤ 9223372036854775807) (a0 : -9223372036854775808 ≤ a) (a1 : a ≤ 9223372036854775807) (_b0 : 0 ≤ b) (_b1 : b ≤ 255) :
    Calls Tryd.prog 5 #[.string s, .int .i64 a, .int .u8 b] w fun e w' => e = .returned (.bool true) ∧ Below w.heap.size w w' := by
  go_enter Tryd.func5, Tryd.ntmps5
  go_wp2_with fail
  refine (sane_calls _ hT).mono ?_
  rintro e w1 ⟨rfl, bA⟩
  go_wp2_with fail
  obtain ⟨F, hF⟩ : ∃ F, strOfNums [b] = F := ⟨_, rfl⟩
  have hFs : F.size = 1 := by rw [← hF, strOfNums_size]; rfl
  have hcv := run_convert_bytes_arg (P := Tryd.prog) (w1.alloc (.cells #[.int .u8 b] 5)).drew 38 5 Tryd.underlying38 Tryd.underlying5 w1.heap.size 0 1 1 [b] rfl (fun i hi => by
    obtain rfl : i = 0 := by omega
    rw [World.cell?_drew, World.cell?_alloc_new]; rfl) 9 Tryd.underlying9
  rw [hF] at hcv
  have zc : (s.extract 0 (min (s.size : Int) 300).toNat).size ≤ 300 := Nat.le_trans (cut_size _ _) (by omega)
  have zz : F.size + (s.extract 0 (min (s.size : Int) 300).toNat).size ≤ 9223372036854775807 := by omega
  have HFs := Lib.hid hFs
  clear hF hFs
  go_region
  have bB : Below w.heap.size w (w1.alloc (.cells #[.int .u8 b] 5)).drew := (bA.alloc bA.size _).drew
  have hts : (F ++ s.extract 0 (min (s.size : Int) 300).toNat).size ≤ 301 := by rw [app_size, HFs.out]; omega
  clear hcv zz zc HFs bA
  generalize F ++ s.extract 0 (min (s.size : Int) 300).toNat = t at hts ⊢
  generalize (w1.alloc (.cells #[.int .u8 b] 5)).drew = w2 at bB ⊢
  obtain ⟨k, hk, hkl⟩ := pick_nat a (t.size + 1) (by omega)
  have Hk := Lib.hid (show pickF a ((t.size : Int) + 1) = (k : Int) by rw [← hk]; rfl)
  clear hk
  go_wp2_with fail
  refine (pick_calls _ _ _ a0 a1 (by omega) (by omega)).mono ?_
  rw [Hk.out]
  rintro e w' ⟨rfl, rfl⟩
  go_wp2_with fail
  have c0 : (w2.alloc (.cells #[.int .i64 0, .int .i64 (k : Int)] 3)).cell? ⟨w2.heap.size, 0, none⟩ = some (.int .i64 0) := by rw [World.cell?_alloc_new]; rfl
  have c1 : (w2.alloc (.cells #[.int .i64 0, .int .i64 (k : Int)] 3)).cell? ⟨w2.heap.size, 1, none⟩ = some (.int .i64 (k : Int)) := by rw [World.cell?_alloc_new]; rfl
  have bC : Below w.heap.size w (w2.alloc (.cells #[.int .i64 0, .int .i64 (k : Int)] 3)) := bB.alloc bB.size _
  clear bB
  generalize w2.alloc (.cells #[.int .i64 0, .int .i64 (k : Int)] 3) = w3 at c0 c1 bC ⊢
  generalize w2.heap.size = B at c0 c1 ⊢
  go_loopw [38] (fun ix wr => ∃ i : Nat, i ≤ 2 ∧ ix = .int .i64 i ∧ Hid (wr.cell? ⟨B, 0, none⟩ = some (.int .i64 0)) ∧ Hid (wr.cell? ⟨B, 1, none⟩ = some (.int .i64 (k : Int))) ∧ Below w.heap.size w wr) (fun ix _ => 2 - (intOf ix).toNat)
  case atStart => exact ⟨0, by omega, rfl, Lib.hid c0, Lib.hid c1, bC⟩
  case round =>
    obtain ⟨i, hi2, rfl, d0, d1, bR⟩ := hrel
    clear c0 c1 bC
    by_cases hi : i = 2
    · have hi' : (2 : Int) ≤ (i : Int) := by omega
      go_wp2_with fail
      go_ret
      exact ⟨rfl, bR⟩
    · have hi' : (i : Int) < 2 := by omega
      obtain ⟨q, hq, hqt⟩ : ∃ q : Nat, wr.cell? ⟨B, i, none⟩ = some (.int .i64 (q : Int)) ∧ q ≤ t.size := by
        rcases (show i = 0 ∨ i = 1 by omega) with rfl | rfl
        · exact ⟨0, d0.out, by omega⟩
        · exact ⟨k, d1.out, by omega⟩
      have hBlt : B < wr.heap.size := lt_of_cell hq
      clear hi
      go_wp2_with fail
      clear hq
      cases hg : getI t.data.toList q with
      | none =>
        have Hg := Lib.hid hg
        have Hs := Lib.hid (getS_of_none _ _ hg)
        clear hg
        refine (int_none t q _ (by omega) hqt Hg.out).mono ?_
        rintro e w' ⟨rfl, rfl⟩
        go_wp2_with fail
        refine (putInt_yes 0 _ (by omega) (by omega)).mono ?_
        rintro e w4 ⟨rfl, b4⟩
        go_wp2_with fail
        refine (str_none t q _ (by omega) hqt Hs.out).mono ?_
        rintro e w5 ⟨rfl, b5⟩
        go_wp2_with fail
        refine (putString_empty _).mono ?_
        rintro e w6 ⟨rfl, b6⟩
        go_wp2_with fail
        go_roundw
        case rel =>
          have s4 := b4.size
          have s5 := Nat.le_trans s4 b5.size
          have hbb := (b4.trans (b5.mono s4)).trans (b6.mono s5)
          exact ⟨i + 1, by omega, by go_num, Lib.hid ((hbb.cell (p := ⟨B, 0, none⟩) hBlt).trans d0.out), Lib.hid ((hbb.cell (p := ⟨B, 1, none⟩) hBlt).trans d1.out), bR.trans (hbb.mono bR.size)⟩
        case measure => simp [intOf]; omega
      | some r =>
        obtain ⟨n, m⟩ := r
        obtain ⟨f1, f2, f3, _, f5⟩ := getI_sound _ _ _ _ hg
        have g1 : q < m := f2
        have g2 : m ≤ t.size := by simpa using f3
        have g3 : -4611686018427387903 ≤ n := f1.1
        have g4 : n ≤ 4611686018427387903 := f1.2
        have g5 := piece_eq t q m _ f5
        have Hg := Lib.hid hg
        clear hg f1 f2 f3 f5
        refine (int_some t q _ (by omega) hqt n m Hg.out).mono ?_
        rintro e w' ⟨rfl, rfl⟩
        go_wp2_with fail
        refine (putInt_yes n _ g3 g4).mono ?_
        rintro e w4 ⟨rfl, b4⟩
        go_wp2_with fail
        clear g5 g1 g2 g3 g4
        cases hs : getS t.data.toList q with
        | none =>
          have Hs := Lib.hid hs
          clear hs
          refine (str_none t q _ (by omega) hqt Hs.out).mono ?_
          rintro e w5 ⟨rfl, b5⟩
          go_wp2_with fail
          refine (putString_empty _).mono ?_
          rintro e w6 ⟨rfl, b6⟩
          go_wp2_with fail
          go_roundw
          case rel =>
            have s4 := b4.size
            have s5 := Nat.le_trans s4 b5.size
            have hbb := (b4.trans (b5.mono s4)).trans (b6.mono s5)
            exact ⟨i + 1, by omega, by go_num, Lib.hid ((hbb.cell (p := ⟨B, 0, none⟩) hBlt).trans d0.out), Lib.hid ((hbb.cell (p := ⟨B, 1, none⟩) hBlt).trans d1.out), bR.trans (hbb.mono bR.size)⟩
          case measure => simp [intOf]; omega
        | some r =>
          obtain ⟨v, m2⟩ := r
          obtain ⟨f1, f2, f3, f5⟩ := getS_sound _ _ _ _ hs
          have g1 : q < m2 := f2
          have g2 : m2 ≤ t.size := by simpa using f3
          have g5 := piece_eq t q m2 _ f5
          have Hs := Lib.hid hs
          clear hs f2 f3 f5
          refine (string_some t q _ (by omega) hqt v m2 Hs.out).mono ?_
          rintro e w5 ⟨rfl, b5⟩
          go_wp2_with fail
          refine (putString_list v _ f1).mono ?_
          rintro e w6 ⟨rfl, b6⟩
          go_wp2_with fail
          clear g5
          go_roundw
          case rel =>
            have s4 := b4.size
            have s5 := Nat.le_trans s4 b5.size
            have hbb := (b4.trans (b5.mono s4)).trans (b6.mono s5)
            exact ⟨i + 1, by omega, by go_num, Lib.hid ((hbb.cell (p := ⟨B, 0, none⟩) hBlt).trans d0.out), Lib.hid ((hbb.cell (p := ⟨B, 1, none⟩) hBlt).trans d1.out), bR.trans (hbb.mono bR.size)⟩
          case measure => simp [intOf]; omega

end Go.Proofs.YthhjdcpodaledaaDoor
