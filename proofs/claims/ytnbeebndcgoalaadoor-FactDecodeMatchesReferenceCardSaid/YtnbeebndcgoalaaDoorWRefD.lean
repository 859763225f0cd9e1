/- Contracts of the reference implementation of layer 1: they return what the plain functions say. Conditions: lengths that fit memory. | Contracts of the reference implementation's Int, String and PutString: they return what the plain functions say. Conditions: lengths that fit memory. | Contracts of the reference implementation's Int, String and PutString for every offset: they return what the plain functions say. Conditions: lengths that fit memory. -/
import Derived.Test.YtnbeebndcgoalaaDoorWUniqWalk
import Derived.Maps.AppendAt
import Derived.RangeFuncBox
namespace Go.Proofs.YtnbeebndcgoalaaDoor
open Go.RowKit
theorem zig_calls (n : Int) (w : World) (h1 : -4611686018427387903 ≤ n) (h2 : n ≤ 4611686018427387903) :
    Calls Tryd.prog 80 #[.int .i64 n] w fun e w' => e = .returned (.int .u64 ((fold n : Nat) : Int)) ∧ w = w' := by
  by_cases h : n < 0
  · have hf : ((fold n : Nat) : Int) = -n * 2 - 1 := by unfold fold; rw [if_pos h]; omega
    rw [hf]; clear hf
    go_enter Tryd.func80, Tryd.ntmps80
    go_wp2
    go_ret
    exact ⟨rfl, rfl⟩
  · have hf : ((fold n : Nat) : Int) = n * 2 := by unfold fold; rw [if_neg h]; omega
    rw [hf]; clear hf
    go_enter Tryd.func80, Tryd.ntmps80
    go_wp2
    go_ret
    exact ⟨rfl, rfl⟩

def cells8 (l : List UInt8) : List Value := l.map fun b => .int .u8 ((b.toNat : Nat) : Int)

theorem cells8_snoc (l : List UInt8) (b : UInt8) (v : Int) (h : ((b.toNat : Nat) : Int) = v) : cells8 (l ++ [b]) = cells8 l ++ [.int .u8 v] := by
  unfold cells8; rw [List.map_append, ← h]; rfl

theorem row_string {w : World} {base g n cap : Nat} {l : List UInt8} (hl : l.length = n) (h : w.ownsRow base 5 1 (.slice (some ⟨g, 0, none⟩) n cap) n (cells8 l)) :
    (convert 69 9 (.slice (some ⟨g, 0, none⟩) n cap)).run Tryd.prog w = .ok (.string ⟨l.toArray⟩) w := by
  have hcv := run_convert_bytes_arg (P := Tryd.prog) w 69 5 Tryd.underlying69 Tryd.underlying5 g 0 n cap (l.map fun b => ((b.toNat : Nat) : Int)) (by simpa using hl) (fun j hj => by
    have hjl : j < l.length := by omega
    have h1 : (cells8 l)[j]? = some (.int .u8 ((l.map fun b => ((b.toNat : Nat) : Int)).getD j 0)) := by
      unfold cells8
      simp [List.getElem?_map, List.getElem?_eq_getElem hjl]
    have h2 := World.ownsRow.cells h rfl _ _ h1
    have e : Addr.add ⟨g, 0, none⟩ j = ⟨g, 0 + j, none⟩ := by unfold Addr.add; split <;> simp_all
    rw [e] at h2
    exact h2) 9 Tryd.underlying9
  rw [str_bytes] at hcv
  exact hcv

set_option maxRecDepth 100000 in
set_option maxHeartbeats 2000000 in
theorem refPut_yes (m : Int) (w : World) (h1 : -4611686018427387903 ≤ m) (h2 : m ≤ 4611686018427387903) :
    Calls Tryd.prog 66 #[.int .i64 m] w fun e W' => e = .returned (.tuple #[.string ⟨(putI m).toArray⟩, .int .i64 0]) ∧ Below w.heap.size w W' := by
  obtain ⟨i0, hi, hz0, hz1, hz2⟩ := info_parts (show (Tryd.prog.info? 5).map (fun i => (i.zero, i.size, i.bytes)) = some (some (.int .u8 0), 1, 1) from by kernel_rfl)
  have Hf := Lib.hid (fold_lt m ⟨h1, h2⟩)
  have Hl : Hid ((enc (fold m)).length ≤ 9) := Lib.hid (putI_length m).2
  go_enter Tryd.func66, Tryd.ntmps66
  go_wp2_with fail
  refine (zig_calls m _ h1 h2).mono ?_
  rintro e w' ⟨rfl, rfl⟩
  go_wp2_with fail
  go_loopw [4, 5] (fun zv ov wr => ∃ (pre : List UInt8) (k y : Nat), zv = .int .u64 (y : Int) ∧ Hid (y < 128 ^ (k + 1)) ∧ Hid (y < 9223372036854775808) ∧ Hid (enc (fold m) = pre ++ encF k y) ∧ Hid (wr.ownsRow w.heap.size 5 1 ov pre.length (cells8 pre)) ∧ Below w.heap.size w wr)
    (fun zv _ _ => (intOf zv).toNat)
  case atStart => exact ⟨[], 8, fold m, rfl, Lib.hid (by simpa using Hf.out), Hf, Lib.hid rfl, Lib.hid (World.ownsRow_nil _ _ _ _), Below.refl _ _⟩
  case round =>
    obtain ⟨pre, k, y, rfl, Hy, Hy9, Hx, Ho, bR⟩ := hrel
    have hy9 : (y : Int) ≤ 9223372036854775807 := by have := Hy9.out; omega
    have hpl : pre.length ≤ 8 := by
      have h3 := Hl.out
      have h4 := (encF_length k y).1
      rw [Hx.out, List.length_append] at h3
      omega
    by_cases hlt : (128 : Int) ≤ (y : Int)
    · have hk : ∃ j, k = j + 1 := by
        cases k with
        | zero => have := Hy.out; simp at this; omega
        | succ j => exact ⟨j, rfl⟩
      obtain ⟨j, rfl⟩ := hk
      have Hx2 : Hid (enc (fold m) = (pre ++ [UInt8.ofNat (y % 128 + 128)]) ++ encF j (y / 128)) := Lib.hid (by
        have := Hx.out
        rw [encF, if_neg (by omega)] at this
        rw [this]; simp)
      have Hy2 : Hid (y / 128 < 128 ^ (j + 1)) := Lib.hid (by have := Hy.out; rw [Nat.pow_succ] at this; omega)
      have Hy3 : Hid (y / 128 < 9223372036854775808) := Lib.hid (by have := Hy9.out; omega)
      have Hc : Hid (cells8 (pre ++ [UInt8.ofNat (y % 128 + 128)]) = cells8 pre ++ [.int .u8 ((y : Int) % 128 + 128)]) := Lib.hid (cells8_snoc _ _ _ (by simp; omega))
      go_wp2_with (at_builtin; refine wpList_append_own _ rfl _ _ 69 rfl w.heap.size 5 i0 (.int .u8 0) 1 1 Tryd.underlying69 hi hz0 hz1 hz2 rfl (by decide) _ _ _ rfl (Ho.out.alloc _) ⟨wr.heap.size, 0, none⟩ 1 1 [.int .u8 ((y : Int) % 128 + 128)] rfl rfl ?c1 ?c2 ?c3 ?c4 ?c5 ?_)
      case c1 => exact cell_one_new _ _ _
      case c2 => simp [Value.oneCell']
      case c3 => unfold maxLen; omega
      case c4 => omega
      case c5 => have := bR.size; simp; omega
      intro v' w1 hown' hgrow _
      have bS : Below w.heap.size w w1 := (bR.alloc bR.size _).grown hgrow (by have := bR.size; simp; omega) (fun q e => (Ho.out.lt q e).1)
      have Hown := Lib.hid hown'
      clear hown' hgrow
      go_wp2_with fail
      go_roundw
      case rel => exact ⟨pre ++ [UInt8.ofNat (y % 128 + 128)], j, y / 128, by go_num, Hy2, Hy3, Hx2, Lib.hid (by rw [Hc.out, List.length_append]; exact Hown.out), bS⟩
      case measure => simp [intOf]; omega
    · have hlt2 : (y : Int) < 128 := by omega
      have Hx2 : Hid (enc (fold m) = pre ++ [UInt8.ofNat y]) := Lib.hid (by
        have h1 := Hx.out
        rw [h1]
        cases k with
        | zero => rfl
        | succ j => rw [encF, if_pos (by omega)])
      have Hc : Hid (cells8 (pre ++ [UInt8.ofNat y]) = cells8 pre ++ [.int .u8 (y : Int)]) := Lib.hid (cells8_snoc _ _ _ (by simp; omega))
      clear hlt
      go_wp2_with (at_builtin; refine wpList_append_own _ rfl _ _ 69 rfl w.heap.size 5 i0 (.int .u8 0) 1 1 Tryd.underlying69 hi hz0 hz1 hz2 rfl (by decide) _ _ _ rfl (Ho.out.alloc _) ⟨wr.heap.size, 0, none⟩ 1 1 [.int .u8 (y : Int)] rfl rfl ?c1 ?c2 ?c3 ?c4 ?c5 ?_)
      case c1 => exact cell_one_new _ _ _
      case c2 => simp [Value.oneCell']
      case c3 => unfold maxLen; omega
      case c4 => omega
      case c5 => have := bR.size; simp; omega
      intro v' w1 hown' hgrow _
      have bS : Below w.heap.size w w1 := (bR.alloc bR.size _).grown hgrow (by have := bR.size; simp; omega) (fun q e => (Ho.out.lt q e).1)
      obtain ⟨g, cap, rfl⟩ := ownsRow_succ hown'
      have hcv := row_string (w := w1) (l := pre ++ [UInt8.ofNat y]) (n := pre.length + 1) (cap := cap) (by simp) (by rw [Hc.out]; exact hown')
      clear hown' hgrow
      go_wp2_with fail
      go_ret2
      exact ⟨by rw [← Hx2.out]; rfl, bS⟩

theorem refPut_low (m : Int) (w : World) (h1 : m < -4611686018427387903) :
    Calls Tryd.prog 66 #[.int .i64 m] w fun e W' => e = .returned (.tuple #[.string ⟨#[]⟩, .int .i64 10]) ∧ w = W' := by
  go_enter Tryd.func66, Tryd.ntmps66
  go_wp2_with fail
  go_ret2
  exact ⟨rfl, rfl⟩
theorem refPut_high (m : Int) (w : World) (h1 : 4611686018427387903 < m) :
    Calls Tryd.prog 66 #[.int .i64 m] w fun e W' => e = .returned (.tuple #[.string ⟨#[]⟩, .int .i64 10]) ∧ w = W' := by
  have h2 : -4611686018427387903 ≤ m := by omega
  go_enter Tryd.func66, Tryd.ntmps66
  go_wp2_with fail
  go_ret2
  exact ⟨rfl, rfl⟩

end Go.Proofs.YtnbeebndcgoalaaDoor
namespace Go.Proofs.YtnbeebndcgoalaaDoor
open Go.RowKit
theorem add_walk (y b k : Nat) (hk : k ≤ 8) (hy : y < 128 ^ k) :
    ((b : Int) % 128 * 2 ^ (7 * k)) = ((b % 128 * 128 ^ k : Nat) : Int) ∧ b % 128 * 128 ^ k ≤ 127 * 72057594037927936 ∧ y ≤ 72057594037927936 := by
  have h2 : 128 ^ k ≤ 128 ^ 8 := Nat.pow_le_pow_right (by omega) hk
  have h4 : 128 ^ 8 = 72057594037927936 := by decide
  have h3 : b % 128 * 128 ^ k ≤ 127 * 72057594037927936 := Nat.mul_le_mul (by omega) (by omega)
  have e128 : (128 : Nat) ^ k = 2 ^ (7 * k) := by rw [Nat.pow_mul]
  refine ⟨?_, h3, by omega⟩
  rw [e128]
  simp

theorem ref_same (s : ByteArray) (p k : Nat) (n : Int) (h : getI s.data.toList p = some (n, p + (k + 1))) : (putI n == (s.extract p (p + k + 1)).toList) = true := by
  have h5 := (getI_sound _ _ _ _ h).2.2.2.2
  have := piece_eq s p (p + (k + 1)) _ h5
  rw [beq_iff_eq] at this ⊢
  rw [← this]; rfl
theorem ref_part (s : ByteArray) (p k : Nat) (n : Int) (hp : p ≤ s.size) (h : getI s.data.toList p = none) (hf : Fits n) : (putI n == (s.extract p (p + k + 1)).toList) = false := by
  rw [beq_eq_false_iff_ne]
  intro he
  rw [ByteArray.toList_eq, Lib.extract_data, show p + k + 1 - p = k + 1 by omega] at he
  have h1 := getI_putI n (s.data.toList.take p) ((s.data.toList.drop p).drop (k + 1)) hf
  have h2 : s.data.toList.take p ++ putI n ++ (s.data.toList.drop p).drop (k + 1) = s.data.toList := by
    rw [he, List.append_assoc, List.take_append_drop, List.take_append_drop]
  have h3 : (s.data.toList.take p).length = p := by rw [List.length_take]; simp; omega
  rw [h2, h3, h] at h1
  cases h1

set_option maxRecDepth 100000 in
set_option maxHeartbeats 4000000 in
theorem refInt_calls (s : ByteArray) (p : Nat) (w : World) (hs : s.size ≤ 9223372036854775000) (ha1 : p ≤ s.size) :
    Calls Tryd.prog 40 #[.string s, .int .i64 (p : Int)] w fun e w' => e = .returned (.tuple #[.int .i64 (intF s.data.toList p).1, .int .i64 (intF s.data.toList p).2.1, .int .i64 (intF s.data.toList p).2.2]) ∧ Below w.heap.size w w' := by
  have Hsl : Hid (p ≤ s.data.toList.length) := Lib.hid (by simpa using ha1)
  have hd1 : decide (s.size < p) = false := by simpa using ha1
  have hd2 : decide ((p : Int) < 0) = false := by simp
  have hd3 : (p : Int) ≤ (s.size : Int) := by omega
  go_enter Tryd.func40, Tryd.ntmps40
  go_wp2
  go_loop [7, 8] (fun z i => ∃ k y : Nat, k ≤ 9 ∧ p + k ≤ s.size ∧ i = .int .i64 k ∧ z = .int .u64 y ∧ Hid (y < 128 ^ k) ∧ Hid (read 9 true (s.data.toList.drop p) = glue y k (read (9 - k) (decide (k = 0)) (s.data.toList.drop (p + k))))) (fun _ i => 9 - (intOf i).toNat)
  case atStart => exact ⟨0, 0, by omega, by omega, rfl, rfl, Lib.hid (by simp), Lib.hid (by simp; cases read 9 true (s.data.toList.drop p) <;> simp [glue])⟩
  case round =>
    obtain ⟨k, y, hk9, hks, rfl, rfl, Hy, HR⟩ := hrel
    by_cases hlt : (k : Int) < 9 ∧ p + k < s.size
    · obtain ⟨hl1, hl2⟩ := hlt
      have hl3 : (p : Int) + (k : Int) < (s.size : Int) := by omega
      have HO := Lib.hid (add_walk y s[p + k].toNat k (by omega) Hy.out)
      have HD := Lib.hid (drop_cons s (p + k) hl2)
      have HB := Lib.hid s[p + k].toNat_lt
      have HY2 : Hid (y + s[p + k].toNat % 128 * 128 ^ k < 128 ^ (k + 1)) := Lib.hid (by
        have := Hy.out
        have h1 : s[p + k].toNat % 128 * 128 ^ k ≤ 127 * 128 ^ k := Nat.mul_le_mul_right _ (by omega)
        rw [Nat.pow_succ]; omega)
      have hb0 : (s[p + k].toNat : Int) < 256 := by have := HB.out; omega
      have hx0 : 0 ≤ (s[p + k].toNat : Int) % 128 * 2 ^ (7 * k) := by rw [HO.out.1]; omega
      have hx1 : (s[p + k].toNat : Int) % 128 * 2 ^ (7 * k) ≤ 127 * 72057594037927936 := by rw [HO.out.1]; have := HO.out.2.1; omega
      have hx2 : (y : Int) ≤ 72057594037927936 := by have := HO.out.2.2; omega
      have HZ : Hid ((y : Int) + (s[p + k].toNat : Int) % 128 * 2 ^ (7 * k) = ((y + s[p + k].toNat % 128 * 128 ^ k : Nat) : Int)) := Lib.hid (by rw [HO.out.1]; simp)
      by_cases hb : (128 : Int) ≤ (s[p + k].toNat : Int)
      · have HN : Hid (read 9 true (s.data.toList.drop p) = glue (y + s[p + k].toNat % 128 * 128 ^ k) (k + 1) (read (9 - (k + 1)) (decide (k + 1 = 0)) (s.data.toList.drop (p + (k + 1))))) := Lib.hid (by
          rw [HR.out, HD.out, show 9 - k = (9 - (k + 1)) + 1 by omega, glue_step _ _ _ _ _ _ (by omega)]; rfl)
        go_wp2_with fail
        go_round
        case rel => exact ⟨k + 1, y + s[p + k].toNat % 128 * 128 ^ k, by omega, by omega, by go_num, by rw [HZ.out], HY2, HN⟩
        case measure => simp [intOf]; omega
      · have hb' : (s[p + k].toNat : Int) < 128 := by omega
        clear hb hb0
        obtain ⟨Z, hZ⟩ : ∃ Z, y + s[p + k].toNat % 128 * 128 ^ k = Z := ⟨_, rfl⟩
        have HZ2 := HZ.out
        rw [hZ] at HZ2
        have HZ3 := Lib.hid HZ2
        have HZe := Lib.hid hZ
        clear HZ HZ2 hZ
        have HZ9 : Hid (Z < 9223372036854775808) := Lib.hid (by
          have h1 := HY2.out
          rw [HZe.out] at h1
          have h2 : 128 ^ (k + 1) ≤ 128 ^ 9 := Nat.pow_le_pow_right (by omega) (by omega)
          have h4 : 128 ^ 9 = 9223372036854775808 := by decide
          omega)
        obtain ⟨n, hn⟩ : ∃ n, unfold' Z = n := ⟨_, rfl⟩
        have Hn := Lib.hid hn
        clear hn
        have HG : Hid ((getI s.data.toList p = some (n, p + (k + 1)) ∧ Fits n) ∨ getI s.data.toList p = none) := Lib.hid (by
          have hr := HR.out
          rw [HD.out, show 9 - k = (9 - (k + 1)) + 1 by omega, read, if_pos (show s[p + k].toNat < 128 by omega)] at hr
          by_cases hc : s[p + k].toNat = 0 ∧ decide (k = 0) = false
          · rw [if_pos hc] at hr
            right; unfold getI; rw [hr]; rfl
          · rw [if_neg hc] at hr
            have e1 : y + 128 ^ k * s[p + k].toNat = Z := by
              rw [← HZe.out, Nat.mod_eq_of_lt (show s[p + k].toNat < 128 by omega), Nat.mul_comm]
            simp only [glue, e1] at hr
            by_cases hf : Fits n
            · left; refine ⟨?_, hf⟩
              unfold getI; rw [hr]; simp only [Hn.out]; rw [if_pos hf]
            · right; unfold getI; rw [hr]; simp only [Hn.out]; rw [if_neg hf])
        have HC : getI s.data.toList p = none → Fits n → (putI n == (s.extract p (p + k + 1)).toList) = false := fun h1 h2 => ref_part s p k n (by omega) h1 h2
        have HS : getI s.data.toList p = some (n, p + (k + 1)) → (putI n == (s.extract p (p + k + 1)).toList) = true := fun h1 => ref_same s p k n h1
        have hpar : ((((y : Int) + (s[p + k].toNat : Int) % 128 * 2 ^ (7 * k)) % 2 == 1) = true ∧ Hid (-(((y : Int) + (s[p + k].toNat : Int) % 128 * 2 ^ (7 * k)) / 2) - 1 = n)) ∨
            ((((y : Int) + (s[p + k].toNat : Int) % 128 * 2 ^ (7 * k)) % 2 == 1) = false ∧ Hid (((y : Int) + (s[p + k].toNat : Int) % 128 * 2 ^ (7 * k)) / 2 = n)) := by
          rw [HZ3.out, ← Hn.out]
          unfold unfold'
          by_cases ho : Z % 2 = 1
          · left
            rw [if_pos ho]
            exact ⟨by rw [beq_iff_eq]; omega, Lib.hid (by omega)⟩
          · right
            rw [if_neg ho]
            exact ⟨by rw [beq_eq_false_iff_ne]; omega, Lib.hid (by omega)⟩
        have HCh := Lib.hid HC
        have HSh := Lib.hid HS
        clear HC HS
        have hl4 : (p : Int) + (k : Int) + 1 ≤ (s.size : Int) := by omega
        rcases hpar with ⟨hodd, HN⟩ | ⟨hodd, HN⟩
        all_goals
          rcases HG.out with ⟨hg, hf⟩ | hg
          · have hcmp := HSh.out hg
            have HI := Lib.hid (intF_some _ _ Hsl.out _ _ hg)
            have hf1 : -4611686018427387903 ≤ n := hf.1
            have hf2 : n ≤ 4611686018427387903 := hf.2
            clear hg hf
            go_wp2_with fail
            rw [HN.out]
            refine (refPut_yes n _ hf1 hf2).mono ?_
            rintro e w1 ⟨rfl, b1⟩
            clear hodd hx0 hx1 hx2
            go_wp2_with fail
            go_ret3
            exact ⟨by rw [HI.out]; exact ret_ints rfl (by dsimp only; omega) rfl, b1⟩
          · have HI := Lib.hid (intF_none _ _ Hsl.out hg)
            by_cases hf : Fits n
            · have hcmp := HCh.out hg hf
              have hf1 : -4611686018427387903 ≤ n := hf.1
              have hf2 : n ≤ 4611686018427387903 := hf.2
              clear hg hf
              go_wp2_with fail
              rw [HN.out]
              refine (refPut_yes n _ hf1 hf2).mono ?_
              rintro e w1 ⟨rfl, b1⟩
              clear hodd hx0 hx1 hx2
              go_wp2_with fail
              go_ret3
              exact ⟨by rw [HI.out]; rfl, b1⟩
            · by_cases hlow : n < -4611686018427387903
              · clear hg hf
                go_wp2_with fail
                rw [HN.out]
                refine (refPut_low n _ hlow).mono ?_
                rintro e w1 ⟨rfl, rfl⟩
                clear hodd hx0 hx1 hx2
                go_wp2_with fail
                go_ret3
                exact ⟨by rw [HI.out]; rfl, Below.refl _ _⟩
              · have hhigh : 4611686018427387903 < n := by unfold Fits at hf; omega
                clear hg hf hlow
                go_wp2_with fail
                rw [HN.out]
                refine (refPut_high n _ hhigh).mono ?_
                rintro e w1 ⟨rfl, rfl⟩
                clear hodd hx0 hx1 hx2
                go_wp2_with fail
                go_ret3
                exact ⟨by rw [HI.out]; rfl, Below.refl _ _⟩
    · have HI := Lib.hid (intF_none s.data.toList p Hsl.out (get_end s.data.toList p k y (by
        rw [HR.out]
        by_cases h9 : 9 ≤ k
        · rw [show 9 - k = 0 by omega]; rfl
        · rw [List.drop_of_length_le (by simp; omega), show 9 - k = (9 - (k + 1)) + 1 by omega]; rfl)))
      by_cases h9 : (k : Int) < 9
      · have h10 : (s.size : Int) ≤ (p : Int) + (k : Int) := by omega
        clear hlt
        go_wp2_with fail
        go_ret3
        exact ⟨by rw [HI.out]; rfl, Below.refl _ _⟩
      · have h10 : (9 : Int) ≤ (k : Int) := by omega
        clear hlt h9
        go_wp2_with fail
        go_ret3
        exact ⟨by rw [HI.out]; rfl, Below.refl _ _⟩

end Go.Proofs.YtnbeebndcgoalaaDoor
namespace Go.Proofs.YtnbeebndcgoalaaDoor
open Go.RowKit
theorem refInt_neg (s : ByteArray) (a : Int) (w : World) (ha : a < 0) :
    Calls Tryd.prog 40 #[.string s, .int .i64 a] w fun e w' => e = .returned (.tuple #[.int .i64 0, .int .i64 0, .int .i64 2]) ∧ w = w' := by
  go_enter Tryd.func40, Tryd.ntmps40
  go_wp2
  go_ret3
  exact ⟨rfl, rfl⟩
theorem refInt_past (s : ByteArray) (a : Int) (w : World) (ha : (s.size : Int) < a) :
    Calls Tryd.prog 40 #[.string s, .int .i64 a] w fun e w' => e = .returned (.tuple #[.int .i64 0, .int .i64 0, .int .i64 2]) ∧ w = w' := by
  have h0 : 0 ≤ a := by omega
  go_enter Tryd.func40, Tryd.ntmps40
  go_wp2
  go_ret3
  exact ⟨rfl, rfl⟩

theorem refInt_all (s : ByteArray) (a : Int) (w : World) (hs : s.size ≤ 9223372036854775000) :
    Calls Tryd.prog 40 #[.string s, .int .i64 a] w fun e w' => e = .returned (.tuple #[.int .i64 (intF s.data.toList a).1, .int .i64 (intF s.data.toList a).2.1, .int .i64 (intF s.data.toList a).2.2]) ∧ Below w.heap.size w w' := by
  by_cases h1 : a < 0
  · have e : intF s.data.toList a = (0, 0, 2) := by unfold intF; rw [if_pos (Or.inl h1)]
    rw [e]; exact (refInt_neg s a w h1).mono fun _ _ ⟨g1, g2⟩ => ⟨g1, g2 ▸ Below.refl _ _⟩
  · by_cases h2 : (s.size : Int) < a
    · have e : intF s.data.toList a = (0, 0, 2) := by unfold intF; rw [if_pos (Or.inr (by simpa using h2))]
      rw [e]; exact (refInt_past s a w h2).mono fun _ _ ⟨g1, g2⟩ => ⟨g1, g2 ▸ Below.refl _ _⟩
    · obtain ⟨p, rfl⟩ := Int.eq_ofNat_of_zero_le (show 0 ≤ a by omega)
      exact refInt_calls s p w hs (by omega)

theorem refStr_refuse (s : ByteArray) (a : Int) (c : Int) (w : World) (h : Calls Tryd.prog 40 #[.string s, .int .i64 a] w fun e w' => e = .returned (.tuple #[.int .i64 0, .int .i64 0, .int .i64 c]) ∧ Below w.heap.size w w') (hc : (c != 0) = true) :
    Calls Tryd.prog 41 #[.string s, .int .i64 a] w fun e w' => e = .returned (.tuple #[.string ⟨#[]⟩, .int .i64 0, .int .i64 c]) ∧ Below w.heap.size w w' := by
  have H := Lib.hid h
  clear h
  go_enter Tryd.func41, Tryd.ntmps41
  go_wp2_with fail
  refine H.out.mono ?_
  rintro e w1 ⟨rfl, b1⟩
  go_wp2_with fail
  go_ret3
  exact ⟨rfl, b1⟩

theorem refStr_length (s : ByteArray) (p : Nat) (w : World) (hs : s.size ≤ 9223372036854775000) (ha1 : p ≤ s.size) (n : Int) (m : Nat) (h : getI s.data.toList p = some (n, m))
    (hn : n < 0 ∨ 65536 < n ∨ (s.size : Int) - m < n) :
    Calls Tryd.prog 41 #[.string s, .int .i64 (p : Int)] w fun e w' => e = .returned (.tuple #[.string ⟨#[]⟩, .int .i64 0, .int .i64 10]) ∧ Below w.heap.size w w' := by
  obtain ⟨f1, f2, f3, _, _⟩ := getI_sound _ _ _ _ h
  have f4 : m ≤ s.size := by simpa using f3
  obtain ⟨f5, f6⟩ := f1
  have hi := refInt_all s p w hs
  rw [intF_some _ _ (by simpa using ha1) _ _ h] at hi
  have H := Lib.hid hi
  clear h f3 hi
  by_cases c1 : n < 0
  · clear hn
    go_enter Tryd.func41, Tryd.ntmps41
    go_wp2_with fail
    refine H.out.mono ?_
    rintro e w1 ⟨rfl, b1⟩
    go_wp2_with fail
    go_ret3
    exact ⟨rfl, b1⟩
  · have c2 : 0 ≤ n := by omega
    clear c1
    by_cases c3 : 65536 < n
    · clear hn
      go_enter Tryd.func41, Tryd.ntmps41
      go_wp2_with fail
      refine H.out.mono ?_
      rintro e w1 ⟨rfl, b1⟩
      go_wp2_with fail
      go_ret3
      exact ⟨rfl, b1⟩
    · have c4 : n ≤ 65536 := by omega
      have c5 : (s.size : Int) - (m : Int) < n := by omega
      clear hn c3
      go_enter Tryd.func41, Tryd.ntmps41
      go_wp2_with fail
      refine H.out.mono ?_
      rintro e w1 ⟨rfl, b1⟩
      go_wp2_with fail
      go_ret3
      exact ⟨rfl, b1⟩

theorem refStr_some (s : ByteArray) (p : Nat) (w : World) (hs : s.size ≤ 9223372036854775000) (ha1 : p ≤ s.size) (v : List UInt8) (e : Nat) (h : getS s.data.toList p = some (v, e)) :
    Calls Tryd.prog 41 #[.string s, .int .i64 (p : Int)] w fun r w' => r = .returned (.tuple #[.string ⟨v.toArray⟩, .int .i64 (e : Int), .int .i64 0]) ∧ Below w.heap.size w w' := by
  unfold getS at h
  cases hg : getI s.data.toList p with
  | none => rw [hg] at h; cases h
  | some q =>
    obtain ⟨n, m⟩ := q
    rw [hg] at h
    simp only at h
    by_cases hc : n < 0 ∨ 65536 < n ∨ (s.data.toList.length : Int) - m < n
    · rw [if_pos hc] at h; cases h
    · rw [if_neg hc] at h
      simp only [Option.some.injEq, Prod.mk.injEq] at h
      obtain ⟨hv, he⟩ := h
      obtain ⟨f1, f2, f3, _, _⟩ := getI_sound _ _ _ _ hg
      have f4 : m ≤ s.size := by simpa using f3
      have hl : s.data.toList.length = s.size := by simp
      rw [hl] at hc
      have hi := refInt_all s p w hs
      rw [intF_some _ _ (by simpa using ha1) _ _ hg] at hi
      have H := Lib.hid hi
      obtain ⟨k, rfl⟩ := Int.eq_ofNat_of_zero_le (show 0 ≤ n by omega)
      have c4 : (k : Int) ≤ 65536 := by omega
      have c5 : (k : Int) ≤ (s.size : Int) - (m : Int) := by omega
      have Hv := Lib.hid hv
      have He := Lib.hid he
      have HX : Hid (s.extract m (m + k) = ⟨((s.data.toList.drop m).take (k : Int).toNat).toArray⟩) := Lib.hid (by
        apply ByteArray.ext
        apply Array.ext'
        rw [Lib.extract_data, Int.toNat_natCast, Nat.add_sub_cancel_left])
      clear hg f1 f3 hl hc hv he hi
      go_enter Tryd.func41, Tryd.ntmps41
      go_wp2_with fail
      refine H.out.mono ?_
      rintro e w1 ⟨rfl, b1⟩
      go_wp2_with fail
      go_ret3
      refine ⟨?_, b1⟩
      rw [← Hv.out, ← He.out, ← HX.out]
      rfl

theorem refStr_all (s : ByteArray) (a : Int) (w : World) (hs : s.size ≤ 9223372036854775000) :
    Calls Tryd.prog 41 #[.string s, .int .i64 a] w fun e w' => e = .returned (.tuple #[.string ⟨(strF s.data.toList a).1.toArray⟩, .int .i64 (strF s.data.toList a).2.1, .int .i64 (strF s.data.toList a).2.2]) ∧ Below w.heap.size w w' := by
  by_cases h1 : a < 0
  · have e : strF s.data.toList a = ([], 0, 2) := by unfold strF; rw [if_pos (Or.inl h1)]
    rw [e]; exact refStr_refuse s a 2 w ((refInt_neg s a w h1).mono fun _ _ ⟨g1, g2⟩ => ⟨g1, g2 ▸ Below.refl _ _⟩) rfl
  · by_cases h2 : (s.size : Int) < a
    · have e : strF s.data.toList a = ([], 0, 2) := by unfold strF; rw [if_pos (Or.inr (by simpa using h2))]
      rw [e]; exact refStr_refuse s a 2 w ((refInt_past s a w h2).mono fun _ _ ⟨g1, g2⟩ => ⟨g1, g2 ▸ Below.refl _ _⟩) rfl
    · obtain ⟨p, rfl⟩ := Int.eq_ofNat_of_zero_le (show 0 ≤ a by omega)
      have hp : p ≤ s.size := by omega
      have hnot : ¬ ((p : Int) < 0 ∨ (s.data.toList.length : Int) < p) := by simp; omega
      cases hg : getS s.data.toList p with
      | some q =>
        obtain ⟨v, m⟩ := q
        have e : strF s.data.toList p = (v, (m : Int), 0) := by unfold strF; rw [if_neg hnot, Int.toNat_natCast, hg]
        rw [e]; exact refStr_some s p w hs hp v m hg
      | none =>
        have e : strF s.data.toList p = ([], 0, 10) := by unfold strF; rw [if_neg hnot, Int.toNat_natCast, hg]
        rw [e]
        cases hi : getI s.data.toList p with
        | none =>
          have h3 := refInt_all s p w hs
          rw [intF_none _ _ (by simpa using hp) hi] at h3
          exact refStr_refuse s p 10 w h3 rfl
        | some q =>
          obtain ⟨n, m⟩ := q
          refine refStr_length s p w hs hp n m hi ?_
          unfold getS at hg
          rw [hi] at hg
          simp only at hg
          by_cases hc : n < 0 ∨ 65536 < n ∨ (s.data.toList.length : Int) - m < n
          · simpa using hc
          · rw [if_neg hc] at hg; cases hg

theorem refPutString_yes (s : ByteArray) (w : World) (hs : s.size ≤ 65536) :
    Calls Tryd.prog 57 #[.string s] w fun e W' => e = .returned (.tuple #[.string ⟨(putS s.data.toList).toArray⟩, .int .i64 0]) ∧ Below w.heap.size w W' := by
  have hs2 : (s.size : Int) ≤ 65536 := by omega
  go_enter Tryd.func57, Tryd.ntmps57
  go_wp2_with fail
  refine (refPut_yes _ _ (by omega) (by omega)).mono ?_
  rintro e w1 ⟨rfl, hB⟩
  have hl := (putI_length (s.size : Int)).2
  go_wp2_with fail
  go_ret2
  refine ⟨?_, hB⟩
  rw [show putS s.data.toList = putI (s.size : Int) ++ s.data.toList from rfl, ← bytes_append]
  rfl

end Go.Proofs.YtnbeebndcgoalaaDoor
