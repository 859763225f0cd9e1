/- The reference implementation's encoding of a fact's numbers, and of a fact. Conditions: what is encoded can be encoded. -/
import Derived.Test.YtnbeebndcgoalaaDoorWRefD
import Derived.Test.YtnbeebndcgoalaaDoorFHlp
namespace Go.Proofs.YtnbeebndcgoalaaDoor
open Go.RowKit
/-- A row of the numbers of a fact. -/
def intsC (v : Nat → Int) : Array Value := #[.int .i64 (v 0), .int .i64 (v 1), .int .i64 (v 2), .int .i64 (v 3), .int .i64 (v 4), .int .i64 (v 5), .int .i64 (v 6), .int .i64 (v 7), .int .i64 (v 8), .int .i64 (v 9), .int .i64 (v 10), .int .i64 (v 11), .int .i64 (v 12), .int .i64 (v 13), .int .i64 (v 14), .int .i64 (v 15), .int .i64 (v 16)]
theorem intsC_get (v : Nat → Int) : ∀ k, k < 17 → (intsC v)[k]? = some (.int .i64 (v k))
  | 0, _ => rfl
  | 1, _ => rfl
  | 2, _ => rfl
  | 3, _ => rfl
  | 4, _ => rfl
  | 5, _ => rfl
  | 6, _ => rfl
  | 7, _ => rfl
  | 8, _ => rfl
  | 9, _ => rfl
  | 10, _ => rfl
  | 11, _ => rfl
  | 12, _ => rfl
  | 13, _ => rfl
  | 14, _ => rfl
  | 15, _ => rfl
  | 16, _ => rfl
  | k + 17, h => absurd h (by omega)
set_option maxRecDepth 100000 in
set_option maxHeartbeats 4000000 in
theorem refNumbersOf_calls (v : Nat → Int) (t : ByteArray) (w : World) : Calls Tryd.prog 59 #[.agg (factC v t)] w fun e W' => e = .returned (.slice (some ⟨w.heap.size + 1, 0, none⟩) 17 17) ∧ W'.heap[w.heap.size + 1]? = some (.cells (intsC v) 3 (0, 0)) ∧ Below w.heap.size w W' := by
  go_enter Tryd.func59, Tryd.ntmps59
  go_upto_region 1 with (fail)
  obtain ⟨W0, hW0, f0, b0, s0⟩ : ∃ W0, w.alloc (.cells (factC v t) 23) = W0 ∧ W0.heap[w.heap.size]? = some (.cells (factC v t) 23 (0, 0)) ∧ Below w.heap.size w W0 ∧ W0.heap.size = w.heap.size + 1 :=
    ⟨_, rfl, heap_new w _, (Below.refl _ w).alloc (Nat.le_refl _) _, by simp⟩
  rw [hW0]
  clear hW0
  obtain ⟨c0, c1, c2, c3, c4, c5, c6, c7, c8, c9, c10, c11, c12, c13, c14, c15, c16, -⟩ := row18 f0
  have S0 := Lib.hid s0
  clear s0 f0
  go_wp2_with fail
  go_ret
  refine ⟨by rw [S0.out]; rfl, ?_, b0.alloc b0.size _⟩
  rw [← S0.out]
  exact heap_new W0 _
/-- The strings of two encodings, one behind the other. -/
theorem enc_app (a b : List UInt8) : (⟨a.toArray⟩ : ByteArray) ++ (⟨b.toArray⟩ : ByteArray) = ⟨(a ++ b).toArray⟩ := by
  apply ByteArray.ext
  rw [ByteArray.data_append]
  simp
set_option maxRecDepth 100000 in
set_option maxHeartbeats 4000000 in
theorem refNumbers_calls (v : Nat → Int) (b : Nat) (w : World) (hb : w.heap[b]? = some (.cells (intsC v) 3 (0, 0))) (hf : ∀ i, i < 17 → Fits (v i)) :
    Calls Tryd.prog 58 #[.slice (some ⟨b, 0, none⟩) 17 17] w fun e W' => e = .returned (.string ⟨(encN v 17).toArray⟩) ∧ Below w.heap.size w W' := by
  have HF := Lib.hid hf
  have HB := Lib.hid hb
  clear hf hb
  go_enter Tryd.func58, Tryd.ntmps58
  go_wp2_with fail
  go_loopw [3, 4] (fun ov kv wr => ∃ k : Nat, k ≤ 17 ∧ kv = .int .i64 k ∧ ov = .string ⟨(encN v k).toArray⟩ ∧ Hid (Below w.heap.size w wr)) (fun _ kv _ => 17 - (intOf kv).toNat)
  case atStart => exact ⟨0, by omega, rfl, rfl, Lib.hid (Below.refl _ _)⟩
  case round =>
    obtain ⟨k, hk, rfl, rfl, BW⟩ := hrel
    by_cases hlt : k < 17
    · have hbl : b < w.heap.size := (Array.getElem?_eq_some_iff.1 HB.out).1
      have ck : wr.cell? ⟨b, k, none⟩ = some (.int .i64 (v k)) := by rw [cell_of_row _ _ _ _ _ _ ((BW.out.block _ hbl).trans HB.out)]; exact intsC_get v k hlt
      obtain ⟨hf1, hf2⟩ := HF.out k hlt
      have HN : Hid (encN v (k + 1) = encN v k ++ putI (v k)) := Lib.hid rfl
      have hl1 := (encN_length v k).2
      have hl2 := (putI_length (v k)).2
      generalize v k = x at *
      generalize encN v k = E at *
      go_wp2_with fail
      refine (refPut_yes x _ hf1 hf2).mono ?_
      rintro e W3 ⟨rfl, b3⟩
      have B3 := Lib.hid (BW.out.trans (b3.mono BW.out.size))
      clear b3 BW ck
      have h1 : (⟨E.toArray⟩ : ByteArray).size ≤ 200 := by show E.length ≤ 200; omega
      have h2 : (⟨(putI x).toArray⟩ : ByteArray).size ≤ 200 := by show (putI x).length ≤ 200; omega
      generalize putI x = X at *
      go_wp2_with fail
      go_roundw
      case rel => exact ⟨k + 1, by omega, by go_num, by rw [HN.out, ← enc_app], B3⟩
      case measure => simp [intOf]; omega
    · obtain rfl : k = 17 := by omega
      rw [show ((17 : Nat) : Int) = 17 from rfl]
      go_wp2_with fail
      go_ret
      exact ⟨rfl, BW.out⟩
set_option maxRecDepth 100000 in
set_option maxHeartbeats 4000000 in
theorem refWritten_calls (v : Nat → Int) (t : ByteArray) (w : World) (hF : FitsF v t.data.toList) : Calls Tryd.prog 36 #[.agg (factC v t)] w fun e W' => e = .returned (.string ⟨(encV v t.data.toList).toArray⟩) ∧ Below w.heap.size w W' := by
  have HF := Lib.hid hF.1
  have ht : t.size ≤ 65536 := hF.2
  clear hF
  have HN : Hid (encV v t.data.toList = encN v 17 ++ putS t.data.toList) := Lib.hid rfl
  have hl1 := (encN_length v 17).2
  have hl2 : (putS t.data.toList).length ≤ 65545 := by
    unfold putS
    rw [List.length_append]
    have h1 := (putI_length (t.data.toList.length : Int)).2
    have h2 : t.data.toList.length ≤ 65536 := ht
    omega
  go_enter Tryd.func36, Tryd.ntmps36
  go_upto_region 1 with (fail)
  obtain ⟨W0, hW0, f0, b0⟩ := one_row w (factC v t) 23
  rw [hW0]
  clear hW0
  have c17 : W0.cell? ⟨w.heap.size, 17, none⟩ = some (.string t) := by rw [cell_of_row _ _ _ _ _ _ f0]; rfl
  have F0 := Lib.hid f0
  have B0 := Lib.hid b0
  clear f0 b0
  go_wp2_with fail
  refine (refPutString_yes t _ ht).mono ?_
  rintro e W1 ⟨rfl, b1⟩
  have F1 := Lib.hid (Hl.row b1 F0.out)
  have B1 := Lib.hid (B0.out.trans (b1.mono B0.out.size))
  clear b1 F0 B0 c17
  go_wp2_with (refine wpList_load_fact rfl _ rfl w.heap.size rfl v t F1.out ?_)
  refine (refNumbersOf_calls v t _).mono ?_
  rintro e W2 ⟨rfl, r2, b2⟩
  have R2 := Lib.hid r2
  have B2 := Lib.hid (B1.out.trans (b2.mono B1.out.size))
  clear r2 b2 F1 B1
  go_wp2_with fail
  refine (refNumbers_calls v _ _ R2.out HF.out).mono ?_
  rintro e W3 ⟨rfl, b3⟩
  have B3 := Lib.hid (B2.out.trans (b3.mono B2.out.size))
  clear b3 R2 B2
  have h1 : (⟨(encN v 17).toArray⟩ : ByteArray).size ≤ 200 := by show (encN v 17).length ≤ 200; omega
  have h2 : (⟨(putS t.data.toList).toArray⟩ : ByteArray).size ≤ 65545 := by show (putS t.data.toList).length ≤ 65545; omega
  generalize encN v 17 = E at *
  generalize putS t.data.toList = X at *
  go_wp2_with fail
  go_ret
  exact ⟨by rw [HN.out, ← enc_app]; rfl, B3.out⟩
end Go.Proofs.YtnbeebndcgoalaaDoor
