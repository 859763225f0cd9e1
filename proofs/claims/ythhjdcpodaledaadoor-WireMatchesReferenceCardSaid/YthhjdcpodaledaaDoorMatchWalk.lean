/- The walk of WireMatchesReference: for every string and all integers it returns true, and nothing that was there has changed. Conditions: the integers are int64s, the table reads as the program lays it. -/
import Derived.Test.YthhjdcpodaledaaDoorRefD
namespace Go.Proofs.YthhjdcpodaledaaDoor
open Go.RowKit

/-- What PutInt returns. -/
def putIF (k : Int) : List UInt8 × Int := if Fits k then (putI k, 0) else ([], 10)

theorem putInt_all (k : Int) (w : World) :
    Calls Tryd.prog 12 #[.int .i64 k] w fun e W' => e = .returned (.tuple #[.string ⟨(putIF k).1.toArray⟩, .int .i64 (putIF k).2]) ∧ Below w.heap.size w W' := by
  by_cases h : Fits k
  · have e : putIF k = (putI k, 0) := by unfold putIF; rw [if_pos h]
    rw [e]; exact putInt_yes k w h.1 h.2
  · have e : putIF k = ([], 10) := by unfold putIF; rw [if_neg h]
    rw [e]
    by_cases h1 : k < -4611686018427387903
    · exact (putInt_low k w h1).mono fun _ _ ⟨g1, g2⟩ => ⟨g1, g2 ▸ Below.refl _ _⟩
    · exact (putInt_high k w (by unfold Fits at h; omega)).mono fun _ _ ⟨g1, g2⟩ => ⟨g1, g2 ▸ Below.refl _ _⟩
theorem refPut_all (k : Int) (w : World) :
    Calls Tryd.prog 13 #[.int .i64 k] w fun e W' => e = .returned (.tuple #[.string ⟨(putIF k).1.toArray⟩, .int .i64 (putIF k).2]) ∧ Below w.heap.size w W' := by
  by_cases h : Fits k
  · have e : putIF k = (putI k, 0) := by unfold putIF; rw [if_pos h]
    rw [e]; exact refPut_yes k w h.1 h.2
  · have e : putIF k = ([], 10) := by unfold putIF; rw [if_neg h]
    rw [e]
    by_cases h1 : k < -4611686018427387903
    · exact (refPut_low k w h1).mono fun _ _ ⟨g1, g2⟩ => ⟨g1, g2 ▸ Below.refl _ _⟩
    · exact (refPut_high k w (by unfold Fits at h; omega)).mono fun _ _ ⟨g1, g2⟩ => ⟨g1, g2 ▸ Below.refl _ _⟩

set_option maxRecDepth 100000 in
set_option maxHeartbeats 4000000 in
theorem match_walk (n : Int) (s : ByteArray) (a : Int) (w : World) (hT : Table w) (n0 : -9223372036854775808 ≤ n) (n1 : n ≤ 9223372036854775807) (z1 : s.size ≤ 9223372036854775807) (a0 : -9223372036854775808 ≤ a) (a1 : a ≤ 9223372036854775807) :
    Calls Tryd.prog 3 #[.int .i64 n, .string s, .int .i64 a] w fun e w' => e = .returned (.bool true) ∧ Below w.heap.size w w' := by
  go_enter Tryd.func3, Tryd.ntmps3
  go_wp2_with fail
  refine (sane_calls _ hT).mono ?_
  rintro e w1 ⟨rfl, bA⟩
  go_wp2_with fail
  have hts : (s.extract 0 (min (s.size : Int) 300).toNat).size ≤ 300 := Nat.le_trans (cut_size _ _) (by omega)
  generalize s.extract 0 (min (s.size : Int) 300).toNat = t at hts ⊢
  refine (number_calls n _ n0 n1).mono ?_
  rintro e w2 ⟨rfl, b2⟩
  obtain ⟨m0, m1⟩ := numF_range n
  generalize numF n = m at m0 m1 ⊢
  have bB : Below w.heap.size w w2 := bA.trans (b2.mono bA.size)
  clear bA b2
  go_wp2_with fail
  have c0 : (w2.alloc (.cells #[.int .i64 n, .int .i64 m] 3)).cell? ⟨w2.heap.size, 0, none⟩ = some (.int .i64 n) := by rw [World.cell?_alloc_new]; rfl
  have c1 : (w2.alloc (.cells #[.int .i64 n, .int .i64 m] 3)).cell? ⟨w2.heap.size, 1, none⟩ = some (.int .i64 m) := by rw [World.cell?_alloc_new]; rfl
  have bC : Below w.heap.size w (w2.alloc (.cells #[.int .i64 n, .int .i64 m] 3)) := bB.alloc bB.size _
  clear bB
  generalize w2.alloc (.cells #[.int .i64 n, .int .i64 m] 3) = w3 at c0 c1 bC ⊢
  generalize w2.heap.size = B at c0 c1 ⊢
  go_loopw [44] (fun ix wr => ∃ i : Nat, i ≤ 2 ∧ ix = .int .i64 i ∧ Hid (wr.cell? ⟨B, 0, none⟩ = some (.int .i64 n)) ∧ Hid (wr.cell? ⟨B, 1, none⟩ = some (.int .i64 m)) ∧ Below w.heap.size w wr) (fun ix _ => 2 - (intOf ix).toNat)
  case atStart => exact ⟨0, by omega, rfl, Lib.hid c0, Lib.hid c1, bC⟩
  case round =>
    obtain ⟨i, hi2, rfl, d0, d1, bR⟩ := hrel
    clear c0 c1 bC
    by_cases hi : i = 2
    · have hi' : (2 : Int) ≤ (i : Int) := by omega
      obtain ⟨k, hk, hkl⟩ := pick_nat a (t.size + 2) (by omega)
      have Hk := Lib.hid (show pickF a ((t.size : Int) + 2) = (k : Int) by rw [← hk]; rfl)
      clear hk hi
      go_wp2_with fail
      refine (pick_calls _ _ _ a0 a1 (by omega) (by omega)).mono ?_
      rw [Hk.out]
      rintro e w' ⟨rfl, rfl⟩
      go_wp2_with fail
      obtain ⟨wo, rfl⟩ : ∃ wo : World, wo = wr := ⟨_, rfl⟩
      have c0 : (wo.alloc (.cells #[.int .i64 a, .int .i64 (k : Int)] 3)).cell? ⟨wo.heap.size, 0, none⟩ = some (.int .i64 a) := by rw [World.cell?_alloc_new]; rfl
      have c1 : (wo.alloc (.cells #[.int .i64 a, .int .i64 (k : Int)] 3)).cell? ⟨wo.heap.size, 1, none⟩ = some (.int .i64 (k : Int)) := by rw [World.cell?_alloc_new]; rfl
      have bC : Below w.heap.size w (wo.alloc (.cells #[.int .i64 a, .int .i64 (k : Int)] 3)) := bR.alloc bR.size _
      clear d0 d1 bR hi'
      generalize wo.alloc (.cells #[.int .i64 a, .int .i64 (k : Int)] 3) = w5 at c0 c1 bC ⊢
      generalize wo.heap.size = C at c0 c1 ⊢
      go_loopw [75] (fun ix wr => ∃ i : Nat, i ≤ 2 ∧ ix = .int .i64 i ∧ Hid (wr.cell? ⟨C, 0, none⟩ = some (.int .i64 a)) ∧ Hid (wr.cell? ⟨C, 1, none⟩ = some (.int .i64 (k : Int))) ∧ Below w.heap.size w wr) (fun ix _ => 2 - (intOf ix).toNat)
      case atStart => exact ⟨0, by omega, rfl, Lib.hid c0, Lib.hid c1, bC⟩
      case round =>
        obtain ⟨j, hj2, rfl, d0, d1, bR⟩ := hrel
        clear c0 c1 bC
        by_cases hj : j = 2
        · have hj' : (2 : Int) ≤ (j : Int) := by omega
          clear hj
          have hTr : Table wr := hT.below bR hT.lt
          go_wp2_with fail
          refine (putString_yes t _ (by omega)).mono ?_
          rintro e w6 ⟨rfl, b6⟩
          go_wp2_with fail
          refine (refPutString_yes t _ (by omega)).mono ?_
          rintro e w7 ⟨rfl, b7⟩
          have b67 := b6.trans (b7.mono b6.size)
          have hT7 : Table w7 := hTr.below b67 hTr.lt
          go_wp2_with fail
          refine (sum_calls t _ hT7 (by omega)).mono ?_
          rintro e w' ⟨rfl, rfl⟩
          go_wp2_with fail
          refine (refSum_calls t _ (by omega)).mono ?_
          rintro e w' ⟨rfl, rfl⟩
          go_wp2_with fail
          go_ret
          exact ⟨rfl, bR.trans (b67.mono bR.size)⟩
        · have hj' : (j : Int) < 2 := by omega
          obtain ⟨q, hq⟩ : ∃ q : Int, wr.cell? ⟨C, j, none⟩ = some (.int .i64 q) := by
            rcases (show j = 0 ∨ j = 1 by omega) with rfl | rfl
            · exact ⟨a, d0.out⟩
            · exact ⟨k, d1.out⟩
          have hBlt : C < wr.heap.size := lt_of_cell hq
          clear hj
          go_wp2_with fail
          clear hq
          refine (int_all t q _ (by omega)).mono ?_
          rintro e w' ⟨rfl, rfl⟩
          go_wp2_with fail
          refine (refInt_all t q _ (by omega)).mono ?_
          rintro e w6 ⟨rfl, b6⟩
          go_wp2_with fail
          refine (str_all t q _ (by omega)).mono ?_
          rintro e w7 ⟨rfl, b7⟩
          go_wp2_with fail
          refine (refStr_all t q _ (by omega)).mono ?_
          rintro e w8 ⟨rfl, b8⟩
          go_wp2_with fail
          go_roundw
          case rel =>
            have s6 := b6.size
            have s7 := Nat.le_trans s6 b7.size
            have hbb := (b6.trans (b7.mono s6)).trans (b8.mono s7)
            exact ⟨j + 1, by omega, by go_num, Lib.hid ((hbb.cell (p := ⟨C, 0, none⟩) hBlt).trans d0.out), Lib.hid ((hbb.cell (p := ⟨C, 1, none⟩) hBlt).trans d1.out), bR.trans (hbb.mono bR.size)⟩
          case measure => simp [intOf]; omega
    · have hi' : (i : Int) < 2 := by omega
      obtain ⟨q, hq⟩ : ∃ q : Int, wr.cell? ⟨B, i, none⟩ = some (.int .i64 q) := by
        rcases (show i = 0 ∨ i = 1 by omega) with rfl | rfl
        · exact ⟨n, d0.out⟩
        · exact ⟨m, d1.out⟩
      have hBlt : B < wr.heap.size := lt_of_cell hq
      clear hi
      go_wp2_with fail
      clear hq
      refine (putInt_all q _).mono ?_
      rintro e w4 ⟨rfl, b4⟩
      go_wp2_with fail
      refine (refPut_all q _).mono ?_
      rintro e w5 ⟨rfl, b5⟩
      go_wp2_with fail
      go_roundw
      case rel =>
        have hbb := b4.trans (b5.mono b4.size)
        exact ⟨i + 1, by omega, by go_num, Lib.hid ((hbb.cell (p := ⟨B, 0, none⟩) hBlt).trans d0.out), Lib.hid ((hbb.cell (p := ⟨B, 1, none⟩) hBlt).trans d1.out), bR.trans (hbb.mono bR.size)⟩
      case measure => simp [intOf]; omega

end Go.Proofs.YthhjdcpodaledaaDoor
