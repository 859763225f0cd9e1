/- The reference implementation's encoding of a fact's numbers, and of a fact. Conditions: what is encoded can be encoded. | The reference implementation's fields and Valid, for every fact: Valid says what okF says. No further condition. -/
import Derived.Test.YtnndnjnpkjpkpaaGreatDoorWRefD
import Derived.Test.YtnndnjnpkjpkpaaGreatDoorFHlp
import Derived.Test.YtnndnjnpkjpkpaaGreatDoorRfA
import Derived.Test.YtnndnjnpkjpkpaaGreatDoorRfB
import Derived.Test.YtnndnjnpkjpkpaaGreatDoorRfC
import Derived.Test.YtnndnjnpkjpkpaaGreatDoorRfD
import Derived.Test.YtnndnjnpkjpkpaaGreatDoorRfE
namespace Go.Proofs.YtnndnjnpkjpkpaaGreatDoor
open Go.RowKit
/-- A row of the numbers of a fact. -/
def intsC (v : Nat → Int) : Array Value := #[.int .i64 (v 0), .int .i64 (v 1), .int .i64 (v 2), .int .i64 (v 3), .int .i64 (v 4), .int .i64 (v 5), .int .i64 (v 6), .int .i64 (v 7), .int .i64 (v 8), .int .i64 (v 9), .int .i64 (v 10), .int .i64 (v 11), .int .i64 (v 12), .int .i64 (v 13), .int .i64 (v 14), .int .i64 (v 15), .int .i64 (v 16)]
theorem intsC_get (v : Nat → Int) : ∀ k, k < 17 → (intsC v)[k]? = some (.int .i64 (v k))
  | 0, _ => rfl
  | 1, _ => rfl
  | 2, _ => rfl
  | 3, _ => rfl
  | 4, _ => rfl
  | 5, _ => rfl
  | 6, _ => rfl
  | 7, _ => rfl
  | 8, _ => rfl
  | 9, _ => rfl
  | 10, _ => rfl
  | 11, _ => rfl
  | 12, _ => rfl
  | 13, _ => rfl
  | 14, _ => rfl
  | 15, _ => rfl
  | 16, _ => rfl
  | k + 17, h => absurd h (by omega)
set_option maxRecDepth 100000 in
set_option maxHeartbeats 4000000 in
theorem refNumbersOf_calls (v : Nat → Int) (t : ByteArray) (w : World) : Calls Tryz.prog 86 #[.agg (factC v t)] w fun e W' => e = .returned (.slice (some ⟨w.heap.size + 1, 0, none⟩) 17 17) ∧ W'.heap[w.heap.size + 1]? = some (.cells (intsC v) 3 (0, 0)) ∧ Below w.heap.size w W' := by
  go_enter Tryz.func86, Tryz.ntmps86
  go_upto_region 1 with (fail)
  obtain ⟨W0, hW0, f0, b0, s0⟩ : ∃ W0, w.alloc (.cells (factC v t) 40) = W0 ∧ W0.heap[w.heap.size]? = some (.cells (factC v t) 40 (0, 0)) ∧ Below w.heap.size w W0 ∧ W0.heap.size = w.heap.size + 1 :=
    ⟨_, rfl, heap_new w _, (Below.refl _ w).alloc (Nat.le_refl _) _, by simp⟩
  rw [hW0]
  clear hW0
  obtain ⟨c0, c1, c2, c3, c4, c5, c6, c7, c8, c9, c10, c11, c12, c13, c14, c15, c16, -⟩ := row18 f0
  have S0 := Lib.hid s0
  clear s0 f0
  go_wp2_with fail
  go_ret
  refine ⟨by rw [S0.out]; rfl, ?_, b0.alloc b0.size _⟩
  rw [← S0.out]
  exact heap_new W0 _
/-- The strings of two encodings, one behind the other. -/
theorem enc_app (a b : List UInt8) : (⟨a.toArray⟩ : ByteArray) ++ (⟨b.toArray⟩ : ByteArray) = ⟨(a ++ b).toArray⟩ := by
  apply ByteArray.ext
  rw [ByteArray.data_append]
  simp
set_option maxRecDepth 100000 in
set_option maxHeartbeats 4000000 in
theorem refNumbers_calls (v : Nat → Int) (b : Nat) (w : World) (hb : w.heap[b]? = some (.cells (intsC v) 3 (0, 0))) (hf : ∀ i, i < 17 → Fits (v i)) :
    Calls Tryz.prog 85 #[.slice (some ⟨b, 0, none⟩) 17 17] w fun e W' => e = .returned (.string ⟨(encN v 17).toArray⟩) ∧ Below w.heap.size w W' := by
  have HF := Lib.hid hf
  have HB := Lib.hid hb
  clear hf hb
  go_enter Tryz.func85, Tryz.ntmps85
  go_wp2_with fail
  go_loopw [3, 4] (fun ov kv wr => ∃ k : Nat, k ≤ 17 ∧ kv = .int .i64 k ∧ ov = .string ⟨(encN v k).toArray⟩ ∧ Hid (Below w.heap.size w wr)) (fun _ kv _ => 17 - (intOf kv).toNat)
  case atStart => exact ⟨0, by omega, rfl, rfl, Lib.hid (Below.refl _ _)⟩
  case round =>
    obtain ⟨k, hk, rfl, rfl, BW⟩ := hrel
    by_cases hlt : k < 17
    · have hbl : b < w.heap.size := (Array.getElem?_eq_some_iff.1 HB.out).1
      have ck : wr.cell? ⟨b, k, none⟩ = some (.int .i64 (v k)) := by rw [cell_of_row _ _ _ _ _ _ ((BW.out.block _ hbl).trans HB.out)]; exact intsC_get v k hlt
      obtain ⟨hf1, hf2⟩ := HF.out k hlt
      have HN : Hid (encN v (k + 1) = encN v k ++ putI (v k)) := Lib.hid rfl
      have hl1 := (encN_length v k).2
      have hl2 := (putI_length (v k)).2
      generalize v k = x at *
      generalize encN v k = E at *
      go_wp2_with fail
      refine (refPut_yes x _ hf1 hf2).mono ?_
      rintro e W3 ⟨rfl, b3⟩
      have B3 := Lib.hid (BW.out.trans (b3.mono BW.out.size))
      clear b3 BW ck
      have h1 : (⟨E.toArray⟩ : ByteArray).size ≤ 200 := by show E.length ≤ 200; omega
      have h2 : (⟨(putI x).toArray⟩ : ByteArray).size ≤ 200 := by show (putI x).length ≤ 200; omega
      generalize putI x = X at *
      go_wp2_with fail
      go_roundw
      case rel => exact ⟨k + 1, by omega, by go_num, by rw [HN.out, ← enc_app], B3⟩
      case measure => simp [intOf]; omega
    · obtain rfl : k = 17 := by omega
      rw [show ((17 : Nat) : Int) = 17 from rfl]
      go_wp2_with fail
      go_ret
      exact ⟨rfl, BW.out⟩
set_option maxRecDepth 100000 in
set_option maxHeartbeats 4000000 in
theorem refWritten_calls (v : Nat → Int) (t : ByteArray) (w : World) (hF : FitsF v t.data.toList) : Calls Tryz.prog 68 #[.agg (factC v t)] w fun e W' => e = .returned (.string ⟨(encV v t.data.toList).toArray⟩) ∧ Below w.heap.size w W' := by
  have HF := Lib.hid hF.1
  have ht : t.size ≤ 65536 := hF.2
  clear hF
  have HN : Hid (encV v t.data.toList = encN v 17 ++ putS t.data.toList) := Lib.hid rfl
  have hl1 := (encN_length v 17).2
  have hl2 : (putS t.data.toList).length ≤ 65545 := by
    unfold putS
    rw [List.length_append]
    have h1 := (putI_length (t.data.toList.length : Int)).2
    have h2 : t.data.toList.length ≤ 65536 := ht
    omega
  go_enter Tryz.func68, Tryz.ntmps68
  go_upto_region 1 with (fail)
  obtain ⟨W0, hW0, f0, b0⟩ := one_row w (factC v t) 40
  rw [hW0]
  clear hW0
  have c17 : W0.cell? ⟨w.heap.size, 17, none⟩ = some (.string t) := by rw [cell_of_row _ _ _ _ _ _ f0]; rfl
  have F0 := Lib.hid f0
  have B0 := Lib.hid b0
  clear f0 b0
  go_wp2_with fail
  refine (refPutString_yes t _ ht).mono ?_
  rintro e W1 ⟨rfl, b1⟩
  have F1 := Lib.hid (Hl.row b1 F0.out)
  have B1 := Lib.hid (B0.out.trans (b1.mono B0.out.size))
  clear b1 F0 B0 c17
  go_wp2_with (refine wpList_load_fact rfl _ rfl w.heap.size rfl v t F1.out ?_)
  refine (refNumbersOf_calls v t _).mono ?_
  rintro e W2 ⟨rfl, r2, b2⟩
  have R2 := Lib.hid r2
  have B2 := Lib.hid (B1.out.trans (b2.mono B1.out.size))
  clear r2 b2 F1 B1
  go_wp2_with fail
  refine (refNumbers_calls v _ _ R2.out HF.out).mono ?_
  rintro e W3 ⟨rfl, b3⟩
  have B3 := Lib.hid (B2.out.trans (b3.mono B2.out.size))
  clear b3 R2 B2
  have h1 : (⟨(encN v 17).toArray⟩ : ByteArray).size ≤ 200 := by show (encN v 17).length ≤ 200; omega
  have h2 : (⟨(putS t.data.toList).toArray⟩ : ByteArray).size ≤ 65545 := by show (putS t.data.toList).length ≤ 65545; omega
  generalize encN v 17 = E at *
  generalize putS t.data.toList = X at *
  go_wp2_with fail
  go_ret
  exact ⟨by rw [HN.out, ← enc_app]; rfl, B3.out⟩
end Go.Proofs.YtnndnjnpkjpkpaaGreatDoor
namespace Go.Proofs.YtnndnjnpkjpkpaaGreatDoor
open Go.RowKit
set_option maxRecDepth 100000 in
set_option maxHeartbeats 4000000 in
theorem rest_none (v : Nat → Int) (t : ByteArray) (w : World) (h6 : ¬ v 0 = 6) (h7 : ¬ v 0 = 7) (h8 : ¬ v 0 = 8) (h9 : ¬ v 0 = 9) (h10 : ¬ v 0 = 10) :
    Calls Tryz.prog 67 #[.agg (factC v t), .agg (factC (baseK (v 0) (v 2)) ⟨#[]⟩)] w fun e W' => e = .returned (.tuple #[.agg (factC (baseK (v 0) (v 2)) ⟨#[]⟩), .bool false]) ∧ Below w.heap.size w W' := by
  generalize baseK (v 0) (v 2) = g at *
  have hone := factC_one g ⟨#[]⟩
  go_enter Tryz.func67, Tryz.ntmps67
  go_upto_region 1 with (fail)
  obtain ⟨W0, hW0, f0, g0, r0, b0⟩ := three_rows w (factC v t) (factC g ⟨#[]⟩) (factC zeroV ⟨#[]⟩) 40 40 40
  rw [hW0]
  clear hW0
  obtain ⟨c0, -⟩ := row18 f0
  have F0 := Lib.hid f0
  have G0 := Lib.hid g0
  have R0 := Lib.hid r0
  have B0 := Lib.hid b0
  clear f0 g0 r0 b0
  go_wp2_with (first
    | (refine wpList_load_fact rfl _ rfl (w.heap.size + 1) rfl g ⟨#[]⟩ G0.out ?_)
    | (refine wpList_store_row rfl 40 _ _ rfl (w.heap.size + 2) (factC g ⟨#[]⟩) rfl rfl 40 _ R0.out (hiC _ _) rfl hone ?_))
  refine bodyPost_ret (results_fact_tmp rfl _ _ (w.heap.size + 2) g ⟨#[]⟩ _ rfl (setRow_heap _ _ _ _ _ _ R0.out) rfl) rfl ?_
  exact ⟨rfl, below_setRow' B0.out _ _ (by omega)⟩
theorem rest_calls (v : Nat → Int) (t : ByteArray) (w : World) (h : v 0 < 1 ∨ 5 < v 0) :
    Calls Tryz.prog 67 #[.agg (factC v t), .agg (factC (baseK (v 0) (v 2)) ⟨#[]⟩)] w fun e W' => e = .returned (.tuple #[.agg (factC (keepV v) (keepT v t)), .bool (rgB v (t.size : Int))]) ∧ Below w.heap.size w W' := by
  by_cases hk : Known (v 0)
  · have hk' := hk
    unfold Known at hk'
    obtain hh | hh | hh | hh | hh : v 0 = 6 ∨ v 0 = 7 ∨ v 0 = 8 ∨ v 0 = 9 ∨ v 0 = 10 := by omega
    · rw [rg_6 v _ hh, hh]; exact rest_6 v t w hh
    · rw [rg_7 v _ hh, hh]; exact rest_7 v t w hh
    · rw [rg_8 v _ hh, hh]; exact rest_8 v t w hh
    · rw [rg_9 v _ hh, hh]; exact rest_9 v t w hh
    · rw [rg_10 v _ hh, hh]; exact rest_10 v t w hh
  · rw [rg_none v _ hk, ← keep_none v t hk]
    unfold Known at hk
    exact rest_none v t w (by omega) (by omega) (by omega) (by omega) (by omega)
set_option maxRecDepth 100000 in
set_option maxHeartbeats 4000000 in
theorem fields_rest (v : Nat → Int) (t : ByteArray) (w : World) (h : v 0 < 1 ∨ 5 < v 0) :
    Calls Tryz.prog 48 #[.agg (factC v t)] w fun e W' => e = .returned (.tuple #[.agg (factC (keepV v) (keepT v t)), .bool (rgB v (t.size : Int))]) ∧ Below w.heap.size w W' := by
  have HR := Lib.hid (fun W => rest_calls v t W h)
  generalize rgB v (t.size : Int) = c at *
  have h1 : ¬ v 0 = 1 := by omega
  have h2 : ¬ v 0 = 2 := by omega
  have h3 : ¬ v 0 = 3 := by omega
  have h4 : ¬ v 0 = 4 := by omega
  have h5 : ¬ v 0 = 5 := by omega
  clear h
  have hone := factC_one (keepV v) (keepT v t)

  go_enter Tryz.func48, Tryz.ntmps48
  go_upto_region 1 with (fail)
  obtain ⟨W0, hW0, f0, r0, b0⟩ := two_rows w (factC v t) (factC zeroV ⟨#[]⟩) 40 40
  rw [hW0]
  clear hW0
  have F0 := Lib.hid f0
  have R0 := Lib.hid r0
  have B0 := Lib.hid b0
  clear f0 r0 b0
  obtain ⟨c0, -, c2, -⟩ := row18 F0.out
  have honeG := factC_one (baseK (v 0) (v 2)) ⟨#[]⟩
  go_upto_region 2 with (first
      | (refine wpList_store_row rfl 40 _ _ rfl W0.heap.size (factC (baseK (v 0) (v 2)) ⟨#[]⟩) rfl rfl 40 _ (heap_new W0 _) (hiC _ _) rfl honeG ?_)
      | (refine wpList_load_fact rfl _ rfl w.heap.size rfl v t F0.out ?_)
      | (refine wpList_load_fact rfl _ rfl (w.heap.size + 1) rfl zeroV ⟨#[]⟩ R0.out ?_))
  have hltFG : w.heap.size < W0.heap.size := (Array.getElem?_eq_some_iff.1 F0.out).1
  have hltRG : (w.heap.size + 1) < W0.heap.size := (Array.getElem?_eq_some_iff.1 R0.out).1
  have hBG : w.heap.size ≤ W0.heap.size := B0.out.size
  obtain ⟨W1, hW1, F1, R1, G1, B1, hs1⟩ : ∃ W1, (W0.alloc (.cells (factC zeroV ⟨#[]⟩) 40)).setRow W0.heap.size (factC (baseK (v 0) (v 2)) ⟨#[]⟩) = W1 ∧ Hid (W1.heap[w.heap.size]? = some (.cells (factC v t) 40 (0, 0))) ∧ Hid (W1.heap[(w.heap.size + 1)]? = some (.cells (factC zeroV ⟨#[]⟩) 40 (0, 0))) ∧ Hid (W1.heap[W0.heap.size]? = some (.cells (factC (baseK (v 0) (v 2)) ⟨#[]⟩) 40 (0, 0))) ∧ Hid (Below w.heap.size w W1) ∧ Hid (W0.heap.size < W1.heap.size) :=
    ⟨_, rfl, Lib.hid ((setRow_other _ _ _ _ (Nat.ne_of_lt (Array.getElem?_eq_some_iff.1 F0.out).1)).trans (row_aft _ _ _ _ F0.out)), Lib.hid ((setRow_other _ _ _ _ (Nat.ne_of_lt (Array.getElem?_eq_some_iff.1 R0.out).1)).trans (row_aft _ _ _ _ R0.out)), Lib.hid (setRow_heap _ _ _ _ _ _ (heap_new W0 _)), Lib.hid (below_setRow' (B0.out.alloc B0.out.size _) _ _ B0.out.size), Lib.hid (by simp)⟩
  rw [hW1]
  clear hW1 F0 R0 B0
  have hleG := hBG
  clear hBG
  generalize W0.heap.size = AG at *
  clear c0 c2
  obtain ⟨c0, -⟩ := row18 F1.out
  go_wp2_with (first
      | (refine wpList_load_fact rfl _ rfl w.heap.size rfl v t F1.out ?_)
      | (refine wpList_load_fact rfl _ rfl (w.heap.size + 1) rfl zeroV ⟨#[]⟩ R1.out ?_)
      | (refine wpList_load_fact rfl _ rfl AG rfl (baseK (v 0) (v 2)) ⟨#[]⟩ G1.out ?_))
  refine (HR.out _).mono ?_
  rintro e W2 ⟨rfl, b2⟩
  have F2 := Lib.hid (Hl.row b2 F1.out)
  have R2 := Lib.hid (Hl.row b2 R1.out)
  have G2 := Lib.hid (Hl.row b2 G1.out)
  have B2 := Lib.hid (B1.out.trans (Below.mono b2 B1.out.size))
  clear F1 R1 G1 B1
  clear b2
  clear c0
  go_wp2_with (refine wpList_store_row rfl 40 _ _ rfl (w.heap.size + 1) (factC (keepV v) (keepT v t)) rfl rfl 40 _ R2.out (hiC _ _) rfl hone ?_)
  refine bodyPost_ret (results_fact_tmp rfl _ _ (w.heap.size + 1) (keepV v) (keepT v t) _ rfl (setRow_heap _ _ _ _ _ _ R2.out) rfl) rfl ?_
  exact ⟨rfl, below_setRow' B2.out _ _ (by omega)⟩
theorem fields_calls (v : Nat → Int) (t : ByteArray) (w : World) :
    Calls Tryz.prog 48 #[.agg (factC v t)] w fun e W' => e = .returned (.tuple #[.agg (factC (keepV v) (keepT v t)), .bool (rgB v (t.size : Int))]) ∧ Below w.heap.size w W' := by
  by_cases hk : 1 ≤ v 0 ∧ v 0 ≤ 5
  · obtain hh | hh | hh | hh | hh : v 0 = 1 ∨ v 0 = 2 ∨ v 0 = 3 ∨ v 0 = 4 ∨ v 0 = 5 := by omega
    · rw [rg_1 v _ hh]; exact fields_1 v t w hh
    · rw [rg_2 v _ hh]; exact fields_2 v t w hh
    · rw [rg_3 v _ hh]; exact fields_3 v t w hh
    · rw [rg_4 v _ hh]; exact fields_4 v t w hh
    · rw [rg_5 v _ hh]; exact fields_5 v t w hh
  · exact fields_rest v t w (by omega)
set_option maxRecDepth 100000 in
set_option maxHeartbeats 4000000 in
theorem refValid_calls (v : Nat → Int) (t : ByteArray) (w : World) : Calls Tryz.prog 32 #[.agg (factC v t)] w fun e W' => e = .returned (.bool (okT v t)) ∧ Below w.heap.size w W' := by
  rw [← ref_valid v t]
  have HF := Lib.hid (fun W => fields_calls v t W)
  have HI := Lib.hid (fun W => within_calls (v 2) 1 1000 W)
  have hq := fun W => runEq (keepV v) v (keepT v t) t W
  generalize rgB v (t.size : Int) = b0 at *
  generalize eqB (keepV v) v (keepT v t) t = b1 at *
  generalize inB (v 2) 1 1000 = b2 at *

  rcases b0 with _ | _
  rotate_left
  rcases b1 with _ | _
  rotate_left
  all_goals
    go_enter Tryz.func32, Tryz.ntmps32
    go_upto_region 1 with (fail)
    obtain ⟨W0, hW0, f0, b0⟩ := one_row w (factC v t) 40
    rw [hW0]
    clear hW0
    have F0 := Lib.hid f0
    have B0 := Lib.hid b0
    clear f0 b0
    go_wp2_with (first
        | (refine wpList_load_fact rfl _ rfl w.heap.size rfl v t F0.out ?_))
    refine (HF.out _).mono ?_
    rintro e W1 ⟨rfl, b1⟩
    have F1 := Lib.hid (Hl.row b1 F0.out)
    have B1 := Lib.hid (B0.out.trans (Below.mono b1 B0.out.size))
    clear F0 B0
    clear b1
    have honeG := factC_one (keepV v) (keepT v t)
    go_upto_region 2 with (first
        | (refine wpList_store_row rfl 40 _ _ rfl W1.heap.size (factC (keepV v) (keepT v t)) rfl rfl 40 _ (heap_new W1 _) (hiC _ _) rfl honeG ?_)
        | (refine wpList_load_fact rfl _ rfl w.heap.size rfl v t F1.out ?_))
    have hltFG : w.heap.size < W1.heap.size := (Array.getElem?_eq_some_iff.1 F1.out).1
    have hBG : w.heap.size ≤ W1.heap.size := B1.out.size
    obtain ⟨W2, hW2, F2, G2, B2, hs2⟩ : ∃ W2, (W1.alloc (.cells (factC zeroV ⟨#[]⟩) 40)).setRow W1.heap.size (factC (keepV v) (keepT v t)) = W2 ∧ Hid (W2.heap[w.heap.size]? = some (.cells (factC v t) 40 (0, 0))) ∧ Hid (W2.heap[W1.heap.size]? = some (.cells (factC (keepV v) (keepT v t)) 40 (0, 0))) ∧ Hid (Below w.heap.size w W2) ∧ Hid (W1.heap.size < W2.heap.size) :=
      ⟨_, rfl, Lib.hid ((setRow_other _ _ _ _ (Nat.ne_of_lt (Array.getElem?_eq_some_iff.1 F1.out).1)).trans (row_aft _ _ _ _ F1.out)), Lib.hid (setRow_heap _ _ _ _ _ _ (heap_new W1 _)), Lib.hid (below_setRow' (B1.out.alloc B1.out.size _) _ _ B1.out.size), Lib.hid (by simp)⟩
    rw [hW2]
    clear hW2 F1 B1
    have hleG := hBG
    clear hBG
    generalize W1.heap.size = AG at *
    obtain ⟨-, -, c2, -⟩ := row18 F2.out
    go_wp2_with (first
        | (refine wpList_load_fact rfl _ rfl w.heap.size rfl v t F2.out ?_)
        | (refine wpList_load_fact rfl _ rfl AG rfl (keepV v) (keepT v t) G2.out ?_))
    first
      | (go_ret; exact ⟨rfl, B2.out⟩)
      | (refine (HI.out _).mono ?_; rintro e W' ⟨rfl, rfl⟩; go_wp2_with fail; go_ret; exact ⟨rfl, B2.out⟩)
end Go.Proofs.YtnndnjnpkjpkpaaGreatDoor
