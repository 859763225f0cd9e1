/- The contract of package digest's padding: what a string of that many bytes is extended by. Condition: at most 10^15 bytes. -/
import Derived.Test.YtnbeebndcgoalaaDoorDBlks
import Derived.Laws.BytesArg
import Derived.Deep.OwnRows
namespace Go.Proofs.YtnbeebndcgoalaaDoor
open Go.RowKit
def padL (n : Nat) : Bs := 128 :: (List.replicate (padZ n) 0 ++ be8 (8 * n))
theorem padF_eq (s : Bs) : padF s = s ++ padL s.length := rfl
/-- The last bytes are set. -/
def padAt (n i : Nat) : Bs := 128 :: (List.replicate (padZ n + (8 - i)) 0 ++ (be8 (8 * n)).drop (8 - i))
theorem padAt_length (n i : Nat) (h : i ≤ 8) : (padAt n i).length = 9 + padZ n := by
  unfold padAt be8
  simp only [List.length_cons, List.length_append, List.length_replicate, List.length_drop, List.length_map, List.length_range]
  omega
theorem padAt_zero (n : Nat) : padAt n 0 = (List.replicate (9 + padZ n) (0 : UInt8)).set 0 128 := by
  unfold padAt
  rw [List.drop_of_length_le (by simp [be8]), List.append_nil, show 9 + padZ n = (padZ n + (8 - 0)) + 1 by omega]
  generalize padZ n + (8 - 0) = m
  rfl
theorem padAt_full (n : Nat) : padAt n 8 = padL n := rfl
theorem be8_get (n i : Nat) (h : i < 8) : (be8 n).drop (7 - i) = UInt8.ofNat (n / 2 ^ (8 * i)) :: (be8 n).drop (8 - i) := by
  have hl : 7 - i < (be8 n).length := by simp [be8]; omega
  rw [List.drop_eq_getElem_cons hl, show 7 - i + 1 = 8 - i by omega]
  congr 1
  simp only [be8, List.getElem_map, List.getElem_range]
  rw [show 7 - (7 - i) = i by omega]
theorem padAt_set (n i : Nat) (h : i < 8) : (padAt n i).set (8 + padZ n - i) (UInt8.ofNat (8 * n / 2 ^ (8 * i))) = padAt n (i + 1) := by
  unfold padAt
  rw [show 8 + padZ n - i = (padZ n + (7 - i)) + 1 by omega, List.set_cons_succ]
  congr 1
  rw [show padZ n + (8 - i) = (padZ n + (7 - i)) + 1 by omega, List.replicate_succ', List.append_assoc, List.set_append_right _ _ (by simp), show 8 - (i + 1) = 7 - i by omega, be8_get _ _ h]
  simp

theorem cells8_set (l : Bs) (i : Nat) (x : UInt8) (v : Int) (h : ((x.toNat : Nat) : Int) = v) : (cells8 l).toArray.setIfInBounds i (.int .u8 v) = (cells8 (l.set i x)).toArray := by
  apply Array.ext'
  rw [← h]
  simp [cells8, List.map_set]
theorem Arr8.set {w : World} {B : Nat} {t : TypeId} {l : Bs} (h : Arr8 w B t l) (i : Nat) (x : UInt8) (v : Int) (hv : ((x.toNat : Nat) : Int) = v) : Arr8 (w.setCell ⟨B, i, none⟩ (.int .u8 v)) B t (l.set i x) := by
  unfold Arr8
  rw [heap_setCell_same _ _ _ _ _ _ h, cells8_set _ _ _ _ hv]

set_option maxRecDepth 100000 in
set_option maxHeartbeats 2000000 in
theorem padding_calls (n : Nat) (w : World) (hn : n ≤ 1000000000000000) :
    Calls Tryd.prog 71 #[.int .i64 (n : Int)] w fun e W' => e = .returned (.string ⟨(padL n).toArray⟩) ∧ Below w.heap.size w W' := by
  go_enter Tryd.func71, Tryd.ntmps71
  have hN : 1 + -(((n : Int) + 1 + 8) % 64) % 64 + 8 = ((9 + padZ n : Nat) : Int) := by unfold padZ; omega
  have hNl : 9 + padZ n ≤ 72 := by unfold padZ; omega
  have hmk0 := run_make_row' (P := Tryd.prog) 69 5 (.int .u8 0) 1 Tryd.underlying69 (by kernel_rfl) rfl .i64 .i64 (9 + padZ n) (by omega) (by omega) w
  have hz : madeCells #[Value.int .u8 0] (9 + padZ n) = (cells8 (List.replicate (9 + padZ n) 0)).toArray := by
    apply Array.ext'
    simp [madeCells, cells8]
    apply List.ext_getElem (by simp)
    intro i h1 h2
    simp [Nat.mod_one]
  rw [hz] at hmk0
  have HAt := Lib.hid (padAt_zero n)
  have Hlen := Lib.hid (padAt_length n)
  have hset : ∀ i, i < 8 → (padAt n i).set (9 + padZ n - 1 - i) (UInt8.ofNat (8 * n / 2 ^ (8 * i))) = padAt n (i + 1) := fun i hi => by
    rw [← padAt_set n i hi]; congr 1; omega
  have Hset := Lib.hid hset
  have hN9 : 9 ≤ 9 + padZ n := by omega
  generalize 9 + padZ n = N at *
  clear hz hset
  obtain ⟨W1, hW1, a1, b1⟩ : ∃ W1, w.alloc (.cells (cells8 (List.replicate N 0)).toArray 5) = W1 ∧ Hid (Arr8 W1 w.heap.size 5 (List.replicate N 0)) ∧ Below w.heap.size w W1 :=
    ⟨_, rfl, Lib.hid (heap_alloc_new w _), (Below.refl _ w).alloc (Nat.le_refl _) _⟩
  rw [hW1] at hmk0
  clear hW1
  have c0 := a1.out.cell 0 (by simp; omega)
  have cf : W1.frozen? ⟨w.heap.size, 0, none⟩ = false := frozen_of_row _ _ _ _ _ a1.out
  have hNp : (0 : Int) < (N : Int) := by omega
  go_wp2_with fail
  obtain ⟨W2, hW2, a1, b1⟩ : ∃ W2, W1.setCell ⟨w.heap.size, 0, none⟩ (.int .u8 128) = W2 ∧ Hid (Arr8 W2 w.heap.size 5 (padAt n 0)) ∧ Below w.heap.size w W2 :=
    ⟨_, rfl, Lib.hid (by rw [HAt.out]; exact a1.out.set 0 128 128 rfl), b1.setCell (Nat.le_refl _) _⟩
  rw [hW2]
  clear hW2 hmk0 HAt hN c0 cf
  go_loopw [22] (fun iv wr => ∃ i : Nat, i ≤ 8 ∧ iv = .int .i64 i ∧ Hid (Arr8 wr w.heap.size 5 (padAt n i)) ∧ Below w.heap.size w wr) (fun iv _ => 8 - (intOf iv).toNat)
  case atStart => exact ⟨0, by omega, rfl, a1, b1⟩
  case round =>
    obtain ⟨i, hi, rfl, aR, bR⟩ := hrel
    by_cases hlt : i < 8
    · have c0 := aR.out.cell (N - 1 - i) (by rw [Hlen.out i hi]; omega)
      have cf : wr.frozen? ⟨w.heap.size, N - 1 - i, none⟩ = false := frozen_of_row _ _ _ _ _ aR.out
      have e1 : IntKind.i64.wrap ((N : Int) - 1 - (i : Int)) = (N : Int) - 1 - (i : Int) := IntWalk.i64_in _ (by omega)
      have e2 : ((N : Int) - 1 - (i : Int)).toNat = N - 1 - i := by omega
      have e3 : 0 ≤ (N : Int) - 1 - (i : Int) := by omega
      have e4 : (N : Int) - 1 - (i : Int) < (N : Int) := by omega
      have e5 : 8 * (i : Int) < 64 := by omega
      have e6 : (8 * (i : Int)).toNat = 8 * i := by omega
      go_wp2_with fail
      have hv : (((UInt8.ofNat (8 * n / 2 ^ (8 * i))).toNat : Nat) : Int) = (n : Int) * 8 / 2 ^ (8 * i) % 256 := by
        rw [UInt8.toNat_ofNat', Nat.mul_comm 8 n]
        simp
      have hA := aR.out.set (N - 1 - i) _ _ hv
      rw [Hset.out i hlt] at hA
      exact ⟨⟨i + 1, by omega, by go_num, Lib.hid hA, bR.setCell (Nat.le_refl _) _⟩, by simp [intOf]; omega⟩
    · obtain rfl : i = 8 := by omega
      have hcv := run_convert_bytes_arg (P := Tryd.prog) wr 69 5 Tryd.underlying69 Tryd.underlying5 w.heap.size 0 N N ((padL n).map fun b => ((b.toNat : Nat) : Int)) (by rw [List.length_map, ← padAt_full, Hlen.out 8 (by omega)]) (fun j hj => by
        rw [Nat.zero_add, aR.out.cell j (by rw [Hlen.out 8 (by omega)]; exact hj), padAt_full]
        have hj2 : j < (padL n).length := by rw [← padAt_full, Hlen.out 8 (by omega)]; exact hj
        simp [List.getElem?_map, List.getElem?_eq_getElem hj2]) 9 Tryd.underlying9
      rw [str_bytes] at hcv
      go_wp2_with fail
      go_ret
      exact ⟨rfl, bR⟩
end Go.Proofs.YtnbeebndcgoalaaDoor
