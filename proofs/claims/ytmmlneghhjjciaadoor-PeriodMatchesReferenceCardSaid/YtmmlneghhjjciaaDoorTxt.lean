/- The contract of package period's digits: the last decimal digits of a number. Conditions: at most four of them, of a number below 10000. -/
import Derived.Test.YtmmlneghhjjciaaDoorRefR
import Derived.Test.YtmmlneghhjjciaaDoorOwn
import Derived.Laws.BytesArg
import Derived.Laws.Rows
import Derived.Deep.OwnRows
import Derived.Deep.WholeRow
namespace Go.Proofs.YtmmlneghhjjciaaDoor
open Go.RowKit

def cells8 (l : List UInt8) : List Value := l.map fun b => .int .u8 ((b.toNat : Nat) : Int)
/-- A block that holds an array of bytes. -/
def Arr8 (w : World) (B : Nat) (t : TypeId) (l : List UInt8) : Prop := w.heap[B]? = some (.cells (cells8 l).toArray t (0, 0))
theorem Arr8.cell {w : World} {B : Nat} {t : TypeId} {l : List UInt8} (h : Arr8 w B t l) (j : Nat) (hj : j < l.length) : w.cell? ⟨B, j, none⟩ = some (.int .u8 (((l.getD j 0).toNat : Nat) : Int)) := by
  rw [cell_of_row _ _ _ _ _ _ h]
  unfold cells8
  simp only [List.getElem?_toArray, List.getElem?_map, List.getD_eq_getElem?_getD, List.getElem?_eq_getElem hj]
  rfl
theorem cells8_set (l : List UInt8) (i : Nat) (x : UInt8) (v : Int) (h : ((x.toNat : Nat) : Int) = v) : (cells8 l).toArray.setIfInBounds i (.int .u8 v) = (cells8 (l.set i x)).toArray := by
  apply Array.ext'
  rw [← h]
  simp [cells8, List.map_set]
theorem Arr8.set {w : World} {B : Nat} {t : TypeId} {l : List UInt8} (h : Arr8 w B t l) (i : Nat) (x : UInt8) (v : Int) (hv : ((x.toNat : Nat) : Int) = v) : Arr8 (w.setCell ⟨B, i, none⟩ (.int .u8 v)) B t (l.set i x) := by
  unfold Arr8
  rw [heap_setCell_same _ _ _ _ _ _ h, cells8_set _ _ _ _ hv]

/-- The last z decimal digits of n. -/
def digL (n z : Nat) : List UInt8 := (List.range z).map fun j => UInt8.ofNat (48 + n / 10 ^ (z - 1 - j) % 10)
theorem digL_length (n z : Nat) : (digL n z).length = z := by simp [digL]
/-- The last i of them are set. -/
def digAt (n z i : Nat) : List UInt8 := List.replicate (z - i) 0 ++ (digL n z).drop (z - i)
theorem digAt_length (n z i : Nat) : (digAt n z i).length = z := by
  unfold digAt; rw [List.length_append, List.length_replicate, List.length_drop, digL_length]; omega
theorem digAt_full (n z : Nat) : digAt n z z = digL n z := by unfold digAt; rw [Nat.sub_self]; rfl
theorem digAt_zero (n z : Nat) : digAt n z 0 = List.replicate z 0 := by
  unfold digAt; rw [Nat.sub_zero, List.drop_of_length_le (by rw [digL_length]; omega), List.append_nil]
theorem digAt_set (n z i : Nat) (h : i < z) : (digAt n z i).set (z - 1 - i) (UInt8.ofNat (48 + n / 10 ^ i % 10)) = digAt n z (i + 1) := by
  unfold digAt
  rw [show z - i = (z - (i + 1)) + 1 by omega, List.replicate_succ', List.append_assoc, List.set_append_right _ _ (by simp; omega), List.length_replicate,
    show z - 1 - i - (z - (i + 1)) = 0 by omega]
  have hl : z - (i + 1) < (digL n z).length := by rw [digL_length]; omega
  rw [List.drop_eq_getElem_cons hl]
  simp only [List.singleton_append, List.set_cons_zero, digL, List.getElem_map, List.getElem_range]
  rw [show z - 1 - (z - (i + 1)) = i by omega]

set_option maxRecDepth 100000 in
set_option maxHeartbeats 2000000 in
theorem digits_calls (n z : Nat) (hz1 : 1 ≤ z) (hz : z ≤ 4) (hn : n < 10000) (w : World) :
    Calls Tryd.prog 22 #[.int .i64 (n : Int), .int .i64 (z : Int)] w fun e W' => e = .returned (.string ⟨(digL n z).toArray⟩) ∧ Below w.heap.size w W' := by
  go_enter Tryd.func22, Tryd.ntmps22
  have hmk0 := run_make_row' (P := Tryd.prog) 37 5 (.int .u8 0) 1 Tryd.underlying37 (by kernel_rfl) rfl .i64 .i64 z (by omega) (by omega) w
  have hz0 : madeCells #[Value.int .u8 0] z = (cells8 (List.replicate z 0)).toArray := by
    apply Array.ext'
    simp [madeCells, cells8]
    apply List.ext_getElem (by simp)
    intro i h1 h2
    simp [Nat.mod_one]
  rw [hz0] at hmk0
  clear hz0
  obtain ⟨W1, hW1, a1, b1⟩ : ∃ W1, w.alloc (.cells (cells8 (List.replicate z 0)).toArray 5) = W1 ∧ Hid (Arr8 W1 w.heap.size 5 (List.replicate z 0)) ∧ Hid (Below w.heap.size w W1) :=
    ⟨_, rfl, Lib.hid (heap_alloc_new w _), Lib.hid ((Below.refl _ w).alloc (Nat.le_refl _) _)⟩
  rw [hW1] at hmk0
  clear hW1
  go_wp2_with fail
  go_loopw [0, 10] (fun nv iv wr => ∃ i x : Nat, i ≤ z ∧ iv = .int .i64 i ∧ nv = .int .i64 x ∧ x < 10000 ∧ Hid (x = n / 10 ^ i) ∧ Hid (Arr8 wr w.heap.size 5 (digAt n z i)) ∧ Hid (Below w.heap.size w wr)) (fun _ iv _ => z - (intOf iv).toNat)
  case atStart => exact ⟨0, n, by omega, rfl, rfl, hn, Lib.hid (by simp), Lib.hid (by rw [digAt_zero]; exact a1.out), b1⟩
  case round =>
    obtain ⟨i, x, hi, rfl, rfl, hx, HX, aR, bR⟩ := hrel
    by_cases hlt : i < z
    · have c0 := aR.out.cell (z - 1 - i) (by rw [digAt_length]; omega)
      have cf : wr.frozen? ⟨w.heap.size, z - 1 - i, none⟩ = false := frozen_of_row _ _ _ _ _ aR.out
      have e1 : IntKind.i64.wrap ((z : Int) - 1 - (i : Int)) = (z : Int) - 1 - (i : Int) := IntWalk.i64_in _ (by omega)
      have e2 : ((z : Int) - 1 - (i : Int)).toNat = z - 1 - i := by omega
      have e3 : 0 ≤ (z : Int) - 1 - (i : Int) := by omega
      have e4 : (z : Int) - 1 - (i : Int) < (z : Int) := by omega
      go_wp2_with fail
      have hv : (((UInt8.ofNat (48 + n / 10 ^ i % 10)).toNat : Nat) : Int) = 48 + (x : Int) % 10 := by
        rw [UInt8.toNat_ofNat', ← HX.out]; omega
      have hA := aR.out.set (z - 1 - i) _ _ hv
      rw [digAt_set n z i hlt] at hA
      have hx2 : x / 10 = n / 10 ^ (i + 1) := by rw [HX.out, Nat.div_div_eq_div_mul, Nat.pow_succ]
      exact ⟨⟨i + 1, x / 10, by omega, by go_num, by go_num, by omega, Lib.hid hx2, Lib.hid hA, Lib.hid (bR.out.setCell (Nat.le_refl _) _)⟩, by simp [intOf]; omega⟩
    · obtain rfl : i = z := by omega
      have hcv := run_convert_bytes_arg (P := Tryd.prog) wr 37 5 Tryd.underlying37 Tryd.underlying5 w.heap.size 0 i i ((digL n i).map fun b => ((b.toNat : Nat) : Int)) (by rw [List.length_map, digL_length]) (fun j hj => by
        rw [Nat.zero_add, aR.out.cell j (by rw [digAt_length]; exact hj), digAt_full]
        have hj2 : j < (digL n i).length := by rw [digL_length]; exact hj
        simp [List.getElem?_map, List.getElem?_eq_getElem hj2]) 9 Tryd.underlying9
      rw [str_bytes] at hcv
      go_wp2_with fail
      go_ret
      exact ⟨rfl, bR.out⟩

/-! ### Format -/
theorem fmt_dig (p : Nat) (hp : p < 1200) : digL (2000 + p / 12) 4 ++ 45 :: digL (p % 12 + 1) 2 = fmtN p := by
  unfold digL fmtN
  simp only [List.range, List.range.loop, List.map_cons, List.map_nil, List.cons_append, List.nil_append]
  have h : (2000 + p / 12) / 1000 % 10 = (2000 + p / 12) / 1000 := by omega
  have h2 : (1 + p % 12) / 10 % 10 = (1 + p % 12) / 10 := by omega
  simp only [show 4 - 1 - 0 = 3 from rfl, show 4 - 1 - 1 = 2 from rfl, show 4 - 1 - 2 = 1 from rfl, show 4 - 1 - 3 = 0 from rfl,
    show 10 ^ 3 = 1000 from rfl, show 10 ^ 2 = 100 from rfl, show 10 ^ 1 = 10 from rfl, Nat.pow_zero, Nat.div_one, h, h2, Nat.add_comm (p % 12) 1]
theorem str_join (a b : List UInt8) : ((⟨a.toArray⟩ : ByteArray) ++ ⟨#[45]⟩) ++ ⟨b.toArray⟩ = ⟨(a ++ 45 :: b).toArray⟩ := by
  apply ByteArray.ext
  apply Array.ext'
  simp

theorem Format_not (p : Int) (w : World) (hp : p < 0 ∨ 1200 ≤ p) : Calls Tryd.prog 12 #[.int .i64 p] w fun e W' => e = .returned (.tuple #[.string ⟨#[]⟩, .int .i64 40]) ∧ w = W' := by
  have Hp := Lib.hid hp
  clear hp
  go_enter Tryd.func12, Tryd.ntmps12
  go_wp2_with fail
  refine (valid_not _ _ Hp.out).mono ?_
  rintro e w' ⟨rfl, rfl⟩
  go_wp2_with fail
  go_ret2
  exact ⟨rfl, rfl⟩

set_option maxRecDepth 100000 in
theorem Format_calls (p : Nat) (hp : p < 1200) (w : World) :
    Calls Tryd.prog 12 #[.int .i64 (p : Int)] w fun e W' => e = .returned (.tuple #[.string ⟨(fmtN p).toArray⟩, .int .i64 0]) ∧ Below w.heap.size w W' := by
  have k0 : (0 : Int) ≤ (p : Int) := by omega
  have k1 : (p : Int) < 1200 := by omega
  have HF := Lib.hid (fmt_dig p hp)
  obtain ⟨y, hy⟩ : ∃ y, 2000 + p / 12 = y := ⟨_, rfl⟩
  obtain ⟨m, hm⟩ : ∃ m, p % 12 + 1 = m := ⟨_, rfl⟩
  have ey : 2000 + (p : Int) / 12 = (y : Int) := by omega
  have em : (p : Int) % 12 + 1 = (m : Int) := by omega
  have Dy := Lib.hid (fun W => digits_calls y 4 (by omega) (by omega) (by omega) W)
  have Dm := Lib.hid (fun W => digits_calls m 2 (by omega) (by omega) (by omega) W)
  rw [hy, hm] at HF
  have hs4 : (⟨(digL y 4).toArray⟩ : ByteArray).size = 4 := by show (digL y 4).toArray.size = 4; simp [digL_length]
  have hs2 : (⟨(digL m 2).toArray⟩ : ByteArray).size = 2 := by show (digL m 2).toArray.size = 2; simp [digL_length]
  have HJ := Lib.hid (str_join (digL y 4) (digL m 2))
  generalize digL y 4 = Ly at *
  generalize digL m 2 = Lm at *
  clear hy hm
  go_enter Tryd.func12, Tryd.ntmps12
  go_wp2_with fail
  refine (valid_yes _ _ k0 k1).mono ?_
  rintro e w' ⟨rfl, rfl⟩
  go_wp2_with fail
  refine (Dy.out _).mono ?_
  rintro e w1 ⟨rfl, b1⟩
  go_wp2_with fail
  refine (Dm.out _).mono ?_
  rintro e w2 ⟨rfl, b2⟩
  have B2 := Lib.hid (b1.trans (b2.mono b1.size))
  clear b1 b2
  go_wp2_with fail
  go_ret2
  exact ⟨by rw [← HF.out, ← HJ.out]; rfl, B2.out⟩

/-! ### number -/
def numF (l : List UInt8) : Int := l.foldl (fun n b => 10 * n + ((b.toNat : Nat) : Int) - 48) 0
theorem numF_snoc (l : List UInt8) (b : UInt8) : numF (l ++ [b]) = 10 * numF l + ((b.toNat : Nat) : Int) - 48 := by
  unfold numF; rw [List.foldl_append]; rfl
theorem numF_bound (k : Nat) : ∀ l : List UInt8, l.length = k → -(6 * (10 ^ k - 1)) ≤ numF l ∧ numF l ≤ 23 * (10 ^ k - 1) := by
  induction k with
  | zero => intro l h; rw [List.length_eq_zero_iff.1 h]; exact ⟨by decide, by decide⟩
  | succ k ih =>
    intro l h
    have hne : l ≠ [] := by rintro rfl; simp at h
    rw [← List.dropLast_concat_getLast hne, numF_snoc, Int.pow_succ]
    have h2 := ih l.dropLast (by rw [List.length_dropLast, h]; rfl)
    have hb := (l.getLast hne).toNat_lt
    omega
theorem numF_small (l : List UInt8) (h : l.length ≤ 4) : -60000 ≤ numF l ∧ numF l ≤ 300000 := by
  have h2 := numF_bound _ l rfl
  rcases (show l.length = 0 ∨ l.length = 1 ∨ l.length = 2 ∨ l.length = 3 ∨ l.length = 4 by omega) with e | e | e | e | e <;> rw [e] at h2 <;> constructor <;> omega

set_option maxRecDepth 100000 in
theorem number_calls (s : ByteArray) (hs : s.size ≤ 4) (w : World) :
    Calls Tryd.prog 23 #[.string s] w fun e W' => e = .returned (.int .i64 (numF s.data.toList)) ∧ w = W' := by
  go_enter Tryd.func23, Tryd.ntmps23
  go_wp2_with fail
  go_loopw [3, 7] (fun nv iv wr => ∃ (i : Nat) (n : Int), i ≤ s.size ∧ iv = .int .i64 i ∧ nv = .int .i64 n ∧ -60000 ≤ n ∧ n ≤ 300000 ∧ Hid (n = numF (s.data.toList.take i)) ∧ Hid (w = wr)) (fun _ iv _ => s.size - (intOf iv).toNat)
  case atStart => exact ⟨0, 0, by omega, rfl, rfl, by omega, by omega, Lib.hid rfl, Lib.hid rfl⟩
  case round =>
    obtain ⟨i, n, hi, rfl, rfl, h1, h2, HX, HW⟩ := hrel
    obtain rfl := HW.out
    by_cases hlt : i < s.size
    · have hb := (s[i]'hlt).toNat_lt
      have HX2 : Hid (10 * n + (((s[i]'hlt).toNat : Nat) : Int) - 48 = numF (s.data.toList.take (i + 1))) := Lib.hid (by
        rw [List.take_succ_eq_append_getElem (show i < s.data.toList.length from hlt), numF_snoc, HX.out]; rfl)
      have hn := numF_small (s.data.toList.take (i + 1)) (by rw [List.length_take]; omega)
      rw [← HX2.out] at hn
      go_wp2_with fail
      exact ⟨⟨i + 1, 10 * n + (((s[i]'hlt).toNat : Nat) : Int) - 48, by omega, by go_num, by go_num, hn.1, hn.2, HX2, Lib.hid trivial⟩, by simp [intOf]; omega⟩
    · obtain rfl : i = s.size := by omega
      have ht : s.data.toList.take s.size = s.data.toList := List.take_of_length_le (Nat.le_refl _)
      go_wp2_with fail
      go_ret
      exact ⟨by rw [HX.out, ht]; rfl, rfl⟩
end Go.Proofs.YtmmlneghhjjciaaDoor
