/- Contracts of the reference implementation of layer 1: they return what the plain functions say. Conditions: lengths that fit memory. | Contracts of the reference implementation's Int, String and PutString: they return what the plain functions say. Conditions: lengths that fit memory. | Contracts of the reference implementation's Int, String and PutString for every offset: they return what the plain functions say. Conditions: lengths that fit memory. -/
import Derived.Test.YtnndnjnpkjpkpaaGreatDoorWUniqWalk
import Derived.Maps.AppendAt
import Derived.RangeFuncBox
namespace Go.Proofs.YtnndnjnpkjpkpaaGreatDoor
open Go.RowKit
theorem zig_calls (n : Int) (w : World) (h1 : -4611686018427387903 ≤ n) (h2 : n ≤ 4611686018427387903) :
    Calls Tryz.prog 114 #[.int .i64 n] w fun e w' => e = .returned (.int .u64 ((fold n : Nat) : Int)) ∧ w = w' := by
  by_cases h : n < 0
  · have hf : ((fold n : Nat) : Int) = -n * 2 - 1 := by unfold fold; rw [if_pos h]; omega
    rw [hf]; clear hf
    go_enter Tryz.func114, Tryz.ntmps114
    go_wp2
    go_ret
    exact ⟨rfl, rfl⟩
  · have hf : ((fold n : Nat) : Int) = n * 2 := by unfold fold; rw [if_neg h]; omega
    rw [hf]; clear hf
    go_enter Tryz.func114, Tryz.ntmps114
    go_wp2
    go_ret
    exact ⟨rfl, rfl⟩

def cells8 (l : List UInt8) : List Value := l.map fun b => .int .u8 ((b.toNat : Nat) : Int)

theorem cells8_snoc (l : List UInt8) (b : UInt8) (v : Int) (h : ((b.toNat : Nat) : Int) = v) : cells8 (l ++ [b]) = cells8 l ++ [.int .u8 v] := by
  unfold cells8; rw [List.map_append, ← h]; rfl

theorem row_string {w : World} {base g n cap : Nat} {l : List UInt8} (hl : l.length = n) (h : w.ownsRow base 5 1 (.slice (some ⟨g, 0, none⟩) n cap) n (cells8 l)) :
    (convert 94 9 (.slice (some ⟨g, 0, none⟩) n cap)).run Tryz.prog w = .ok (.string ⟨l.toArray⟩) w := by
  have hcv := run_convert_bytes_arg (P := Tryz.prog) w 94 5 Tryz.underlying94 Tryz.underlying5 g 0 n cap (l.map fun b => ((b.toNat : Nat) : Int)) (by simpa using hl) (fun j hj => by
    have hjl : j < l.length := by omega
    have h1 : (cells8 l)[j]? = some (.int .u8 ((l.map fun b => ((b.toNat : Nat) : Int)).getD j 0)) := by
      unfold cells8
      simp [List.getElem?_map, List.getElem?_eq_getElem hjl]
    have h2 := World.ownsRow.cells h rfl _ _ h1
    have e : Addr.add ⟨g, 0, none⟩ j = ⟨g, 0 + j, none⟩ := by unfold Addr.add; split <;> simp_all
    rw [e] at h2
    exact h2) 9 Tryz.underlying9
  rw [str_bytes] at hcv
  exact hcv

set_option maxRecDepth 100000 in
set_option maxHeartbeats 2000000 in
theorem refPut_yes (m : Int) (w : World) (h1 : -4611686018427387903 ≤ m) (h2 : m ≤ 4611686018427387903) :
    Calls Tryz.prog 106 #[.int .i64 m] w fun e W' => e = .returned (.tuple #[.string ⟨(putI m).toArray⟩, .int .i64 0]) ∧ Below w.heap.size w W' := by
  obtain ⟨i0, hi, hz0, hz1, hz2⟩ := info_parts (show (Tryz.prog.info? 5).map (fun i => (i.zero, i.size, i.bytes)) = some (some (.int .u8 0), 1, 1) from by kernel_rfl)
  have Hf := Lib.hid (fold_lt m ⟨h1, h2⟩)
  have Hl : Hid ((enc (fold m)).length ≤ 9) := Lib.hid (putI_length m).2
  go_enter Tryz.func106, Tryz.ntmps106
  go_wp2_with fail
  refine (zig_calls m _ h1 h2).mono ?_
  rintro e w' ⟨rfl, rfl⟩
  go_wp2_with fail
  go_loopw [4, 5] (fun zv ov wr => ∃ (pre : List UInt8) (k y : Nat), zv = .int .u64 (y : Int) ∧ Hid (y < 128 ^ (k + 1)) ∧ Hid (y < 9223372036854775808) ∧ Hid (enc (fold m) = pre ++ encF k y) ∧ Hid (wr.ownsRow w.heap.size 5 1 ov pre.length (cells8 pre)) ∧ Below w.heap.size w wr)
    (fun zv _ _ => (intOf zv).toNat)
  case atStart => exact ⟨[], 8, fold m, rfl, Lib.hid (by simpa using Hf.out), Hf, Lib.hid rfl, Lib.hid (World.ownsRow_nil _ _ _ _), Below.refl _ _⟩
  case round =>
    obtain ⟨pre, k, y, rfl, Hy, Hy9, Hx, Ho, bR⟩ := hrel
    have hy9 : (y : Int) ≤ 9223372036854775807 := by have := Hy9.out; omega
    have hpl : pre.length ≤ 8 := by
      have h3 := Hl.out
      have h4 := (encF_length k y).1
      rw [Hx.out, List.length_append] at h3
      omega
    by_cases hlt : (128 : Int) ≤ (y : Int)
    · have hk : ∃ j, k = j + 1 := by
        cases k with
        | zero => have := Hy.out; simp at this; omega
        | succ j => exact ⟨j, rfl⟩
      obtain ⟨j, rfl⟩ := hk
      have Hx2 : Hid (enc (fold m) = (pre ++ [UInt8.ofNat (y % 128 + 128)]) ++ encF j (y / 128)) := Lib.hid (by
        have := Hx.out
        rw [encF, if_neg (by omega)] at this
        rw [this]; simp)
      have Hy2 : Hid (y / 128 < 128 ^ (j + 1)) := Lib.hid (by have := Hy.out; rw [Nat.pow_succ] at this; omega)
      have Hy3 : Hid (y / 128 < 9223372036854775808) := Lib.hid (by have := Hy9.out; omega)
      have Hc : Hid (cells8 (pre ++ [UInt8.ofNat (y % 128 + 128)]) = cells8 pre ++ [.int .u8 ((y : Int) % 128 + 128)]) := Lib.hid (cells8_snoc _ _ _ (by simp; omega))
      go_wp2_with (at_builtin; refine wpList_append_own _ rfl _ _ 94 rfl w.heap.size 5 i0 (.int .u8 0) 1 1 Tryz.underlying94 hi hz0 hz1 hz2 rfl (by decide) _ _ _ rfl (Ho.out.alloc _) ⟨wr.heap.size, 0, none⟩ 1 1 [.int .u8 ((y : Int) % 128 + 128)] rfl rfl ?c1 ?c2 ?c3 ?c4 ?c5 ?_)
      case c1 => exact cell_one_new _ _ _
      case c2 => simp [Value.oneCell']
      case c3 => unfold maxLen; omega
      case c4 => omega
      case c5 => have := bR.size; simp; omega
      intro v' w1 hown' hgrow _
      have bS : Below w.heap.size w w1 := (bR.alloc bR.size _).grown hgrow (by have := bR.size; simp; omega) (fun q e => (Ho.out.lt q e).1)
      have Hown := Lib.hid hown'
      clear hown' hgrow
      go_wp2_with fail
      go_roundw
      case rel => exact ⟨pre ++ [UInt8.ofNat (y % 128 + 128)], j, y / 128, by go_num, Hy2, Hy3, Hx2, Lib.hid (by rw [Hc.out, List.length_append]; exact Hown.out), bS⟩
      case measure => simp [intOf]; omega
    · have hlt2 : (y : Int) < 128 := by omega
      have Hx2 : Hid (enc (fold m) = pre ++ [UInt8.ofNat y]) := Lib.hid (by
        have h1 := Hx.out
        rw [h1]
        cases k with
        | zero => rfl
        | succ j => rw [encF, if_pos (by omega)])
      have Hc : Hid (cells8 (pre ++ [UInt8.ofNat y]) = cells8 pre ++ [.int .u8 (y : Int)]) := Lib.hid (cells8_snoc _ _ _ (by simp; omega))
      clear hlt
      go_wp2_with (at_builtin; refine wpList_append_own _ rfl _ _ 94 rfl w.heap.size 5 i0 (.int .u8 0) 1 1 Tryz.underlying94 hi hz0 hz1 hz2 rfl (by decide) _ _ _ rfl (Ho.out.alloc _) ⟨wr.heap.size, 0, none⟩ 1 1 [.int .u8 (y : Int)] rfl rfl ?c1 ?c2 ?c3 ?c4 ?c5 ?_)
      case c1 => exact cell_one_new _ _ _
      case c2 => simp [Value.oneCell']
      case c3 => unfold maxLen; omega
      case c4 => omega
      case c5 => have := bR.size; simp; omega
      intro v' w1 hown' hgrow _
      have bS : Below w.heap.size w w1 := (bR.alloc bR.size _).grown hgrow (by have := bR.size; simp; omega) (fun q e => (Ho.out.lt q e).1)
      obtain ⟨g, cap, rfl⟩ := ownsRow_succ hown'
      have hcv := row_string (w := w1) (l := pre ++ [UInt8.ofNat y]) (n := pre.length + 1) (cap := cap) (by simp) (by rw [Hc.out]; exact hown')
      clear hown' hgrow
      go_wp2_with fail
      go_ret2
      exact ⟨by rw [← Hx2.out]; rfl, bS⟩

theorem refPut_low (m : Int) (w : World) (h1 : m < -4611686018427387903) :
    Calls Tryz.prog 106 #[.int .i64 m] w fun e W' => e = .returned (.tuple #[.string ⟨#[]⟩, .int .i64 10]) ∧ w = W' := by
  go_enter Tryz.func106, Tryz.ntmps106
  go_wp2_with fail
  go_ret2
  exact ⟨rfl, rfl⟩
theorem refPut_high (m : Int) (w : World) (h1 : 4611686018427387903 < m) :
    Calls Tryz.prog 106 #[.int .i64 m] w fun e W' => e = .returned (.tuple #[.string ⟨#[]⟩, .int .i64 10]) ∧ w = W' := by
  have h2 : -4611686018427387903 ≤ m := by omega
  go_enter Tryz.func106, Tryz.ntmps106
  go_wp2_with fail
  go_ret2
  exact ⟨rfl, rfl⟩

theorem add_walk (y b k : Nat) (hk : k ≤ 8) (hy : y < 128 ^ k) :
    ((b : Int) % 128 * 2 ^ (7 * k)) = ((b % 128 * 128 ^ k : Nat) : Int) ∧ b % 128 * 128 ^ k ≤ 127 * 72057594037927936 ∧ y ≤ 72057594037927936 := by
  have h2 : 128 ^ k ≤ 128 ^ 8 := Nat.pow_le_pow_right (by omega) hk
  have h4 : 128 ^ 8 = 72057594037927936 := by decide
  have h3 : b % 128 * 128 ^ k ≤ 127 * 72057594037927936 := Nat.mul_le_mul (by omega) (by omega)
  have e128 : (128 : Nat) ^ k = 2 ^ (7 * k) := by rw [Nat.pow_mul]
  refine ⟨?_, h3, by omega⟩
  rw [e128]
  simp

theorem ref_same (s : ByteArray) (p k : Nat) (n : Int) (h : getI s.data.toList p = some (n, p + (k + 1))) : (putI n == (s.extract p (p + k + 1)).toList) = true := by
  have h5 := (getI_sound _ _ _ _ h).2.2.2.2
  have := piece_eq s p (p + (k + 1)) _ h5
  rw [beq_iff_eq] at this ⊢
  rw [← this]; rfl
theorem ref_part (s : ByteArray) (p k : Nat) (n : Int) (hp : p ≤ s.size) (h : getI s.data.toList p = none) (hf : Fits n) : (putI n == (s.extract p (p + k + 1)).toList) = false := by
  rw [beq_eq_false_iff_ne]
  intro he
  rw [ByteArray.toList_eq, Lib.extract_data, show p + k + 1 - p = k + 1 by omega] at he
  have h1 := getI_putI n (s.data.toList.take p) ((s.data.toList.drop p).drop (k + 1)) hf
  have h2 : s.data.toList.take p ++ putI n ++ (s.data.toList.drop p).drop (k + 1) = s.data.toList := by
    rw [he, List.append_assoc, List.take_append_drop, List.take_append_drop]
  have h3 : (s.data.toList.take p).length = p := by rw [List.length_take]; simp; omega
  rw [h2, h3, h] at h1
  cases h1

theorem refPutString_yes (s : ByteArray) (w : World) (hs : s.size ≤ 65536) :
    Calls Tryz.prog 84 #[.string s] w fun e W' => e = .returned (.tuple #[.string ⟨(putS s.data.toList).toArray⟩, .int .i64 0]) ∧ Below w.heap.size w W' := by
  have hs2 : (s.size : Int) ≤ 65536 := by omega
  go_enter Tryz.func84, Tryz.ntmps84
  go_wp2_with fail
  refine (refPut_yes _ _ (by omega) (by omega)).mono ?_
  rintro e w1 ⟨rfl, hB⟩
  have hl := (putI_length (s.size : Int)).2
  go_wp2_with fail
  go_ret2
  refine ⟨?_, hB⟩
  rw [show putS s.data.toList = putI (s.size : Int) ++ s.data.toList from rfl, ← bytes_append]
  rfl

end Go.Proofs.YtnndnjnpkjpkpaaGreatDoor
