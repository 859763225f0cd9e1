/- Contracts of the reference implementation's Int, String and PutString: they return what the plain functions say. Conditions: lengths that fit memory. -/
import Derived.Test.YtnbeebndcgoalaaDoorWRef
namespace Go.Proofs.YtnbeebndcgoalaaDoor
open Go.RowKit
theorem add_walk (y b k : Nat) (hk : k ≤ 8) (hy : y < 128 ^ k) :
    ((b : Int) % 128 * 2 ^ (7 * k)) = ((b % 128 * 128 ^ k : Nat) : Int) ∧ b % 128 * 128 ^ k ≤ 127 * 72057594037927936 ∧ y ≤ 72057594037927936 := by
  have h2 : 128 ^ k ≤ 128 ^ 8 := Nat.pow_le_pow_right (by omega) hk
  have h4 : 128 ^ 8 = 72057594037927936 := by decide
  have h3 : b % 128 * 128 ^ k ≤ 127 * 72057594037927936 := Nat.mul_le_mul (by omega) (by omega)
  have e128 : (128 : Nat) ^ k = 2 ^ (7 * k) := by rw [Nat.pow_mul]
  refine ⟨?_, h3, by omega⟩
  rw [e128]
  simp

theorem ref_same (s : ByteArray) (p k : Nat) (n : Int) (h : getI s.data.toList p = some (n, p + (k + 1))) : (putI n == (s.extract p (p + k + 1)).toList) = true := by
  have h5 := (getI_sound _ _ _ _ h).2.2.2.2
  have := piece_eq s p (p + (k + 1)) _ h5
  rw [beq_iff_eq] at this ⊢
  rw [← this]; rfl
theorem ref_part (s : ByteArray) (p k : Nat) (n : Int) (hp : p ≤ s.size) (h : getI s.data.toList p = none) (hf : Fits n) : (putI n == (s.extract p (p + k + 1)).toList) = false := by
  rw [beq_eq_false_iff_ne]
  intro he
  rw [ByteArray.toList_eq, Lib.extract_data, show p + k + 1 - p = k + 1 by omega] at he
  have h1 := getI_putI n (s.data.toList.take p) ((s.data.toList.drop p).drop (k + 1)) hf
  have h2 : s.data.toList.take p ++ putI n ++ (s.data.toList.drop p).drop (k + 1) = s.data.toList := by
    rw [he, List.append_assoc, List.take_append_drop, List.take_append_drop]
  have h3 : (s.data.toList.take p).length = p := by rw [List.length_take]; simp; omega
  rw [h2, h3, h] at h1
  cases h1

set_option maxRecDepth 100000 in
set_option maxHeartbeats 4000000 in
theorem refInt_calls (s : ByteArray) (p : Nat) (w : World) (hs : s.size ≤ 9223372036854775000) (ha1 : p ≤ s.size) :
    Calls Tryd.prog 40 #[.string s, .int .i64 (p : Int)] w fun e w' => e = .returned (.tuple #[.int .i64 (intF s.data.toList p).1, .int .i64 (intF s.data.toList p).2.1, .int .i64 (intF s.data.toList p).2.2]) ∧ Below w.heap.size w w' := by
  have Hsl : Hid (p ≤ s.data.toList.length) := Lib.hid (by simpa using ha1)
  have hd1 : decide (s.size < p) = false := by simpa using ha1
  have hd2 : decide ((p : Int) < 0) = false := by simp
  have hd3 : (p : Int) ≤ (s.size : Int) := by omega
  go_enter Tryd.func40, Tryd.ntmps40
  go_wp2
  go_loop [7, 8] (fun z i => ∃ k y : Nat, k ≤ 9 ∧ p + k ≤ s.size ∧ i = .int .i64 k ∧ z = .int .u64 y ∧ Hid (y < 128 ^ k) ∧ Hid (read 9 true (s.data.toList.drop p) = glue y k (read (9 - k) (decide (k = 0)) (s.data.toList.drop (p + k))))) (fun _ i => 9 - (intOf i).toNat)
  case atStart => exact ⟨0, 0, by omega, by omega, rfl, rfl, Lib.hid (by simp), Lib.hid (by simp; cases read 9 true (s.data.toList.drop p) <;> simp [glue])⟩
  case round =>
    obtain ⟨k, y, hk9, hks, rfl, rfl, Hy, HR⟩ := hrel
    by_cases hlt : (k : Int) < 9 ∧ p + k < s.size
    · obtain ⟨hl1, hl2⟩ := hlt
      have hl3 : (p : Int) + (k : Int) < (s.size : Int) := by omega
      have HO := Lib.hid (add_walk y s[p + k].toNat k (by omega) Hy.out)
      have HD := Lib.hid (drop_cons s (p + k) hl2)
      have HB := Lib.hid s[p + k].toNat_lt
      have HY2 : Hid (y + s[p + k].toNat % 128 * 128 ^ k < 128 ^ (k + 1)) := Lib.hid (by
        have := Hy.out
        have h1 : s[p + k].toNat % 128 * 128 ^ k ≤ 127 * 128 ^ k := Nat.mul_le_mul_right _ (by omega)
        rw [Nat.pow_succ]; omega)
      have hb0 : (s[p + k].toNat : Int) < 256 := by have := HB.out; omega
      have hx0 : 0 ≤ (s[p + k].toNat : Int) % 128 * 2 ^ (7 * k) := by rw [HO.out.1]; omega
      have hx1 : (s[p + k].toNat : Int) % 128 * 2 ^ (7 * k) ≤ 127 * 72057594037927936 := by rw [HO.out.1]; have := HO.out.2.1; omega
      have hx2 : (y : Int) ≤ 72057594037927936 := by have := HO.out.2.2; omega
      have HZ : Hid ((y : Int) + (s[p + k].toNat : Int) % 128 * 2 ^ (7 * k) = ((y + s[p + k].toNat % 128 * 128 ^ k : Nat) : Int)) := Lib.hid (by rw [HO.out.1]; simp)
      by_cases hb : (128 : Int) ≤ (s[p + k].toNat : Int)
      · have HN : Hid (read 9 true (s.data.toList.drop p) = glue (y + s[p + k].toNat % 128 * 128 ^ k) (k + 1) (read (9 - (k + 1)) (decide (k + 1 = 0)) (s.data.toList.drop (p + (k + 1))))) := Lib.hid (by
          rw [HR.out, HD.out, show 9 - k = (9 - (k + 1)) + 1 by omega, glue_step _ _ _ _ _ _ (by omega)]; rfl)
        go_wp2_with fail
        go_round
        case rel => exact ⟨k + 1, y + s[p + k].toNat % 128 * 128 ^ k, by omega, by omega, by go_num, by rw [HZ.out], HY2, HN⟩
        case measure => simp [intOf]; omega
      · have hb' : (s[p + k].toNat : Int) < 128 := by omega
        clear hb hb0
        obtain ⟨Z, hZ⟩ : ∃ Z, y + s[p + k].toNat % 128 * 128 ^ k = Z := ⟨_, rfl⟩
        have HZ2 := HZ.out
        rw [hZ] at HZ2
        have HZ3 := Lib.hid HZ2
        have HZe := Lib.hid hZ
        clear HZ HZ2 hZ
        have HZ9 : Hid (Z < 9223372036854775808) := Lib.hid (by
          have h1 := HY2.out
          rw [HZe.out] at h1
          have h2 : 128 ^ (k + 1) ≤ 128 ^ 9 := Nat.pow_le_pow_right (by omega) (by omega)
          have h4 : 128 ^ 9 = 9223372036854775808 := by decide
          omega)
        obtain ⟨n, hn⟩ : ∃ n, unfold' Z = n := ⟨_, rfl⟩
        have Hn := Lib.hid hn
        clear hn
        have HG : Hid ((getI s.data.toList p = some (n, p + (k + 1)) ∧ Fits n) ∨ getI s.data.toList p = none) := Lib.hid (by
          have hr := HR.out
          rw [HD.out, show 9 - k = (9 - (k + 1)) + 1 by omega, read, if_pos (show s[p + k].toNat < 128 by omega)] at hr
          by_cases hc : s[p + k].toNat = 0 ∧ decide (k = 0) = false
          · rw [if_pos hc] at hr
            right; unfold getI; rw [hr]; rfl
          · rw [if_neg hc] at hr
            have e1 : y + 128 ^ k * s[p + k].toNat = Z := by
              rw [← HZe.out, Nat.mod_eq_of_lt (show s[p + k].toNat < 128 by omega), Nat.mul_comm]
            simp only [glue, e1] at hr
            by_cases hf : Fits n
            · left; refine ⟨?_, hf⟩
              unfold getI; rw [hr]; simp only [Hn.out]; rw [if_pos hf]
            · right; unfold getI; rw [hr]; simp only [Hn.out]; rw [if_neg hf])
        have HC : getI s.data.toList p = none → Fits n → (putI n == (s.extract p (p + k + 1)).toList) = false := fun h1 h2 => ref_part s p k n (by omega) h1 h2
        have HS : getI s.data.toList p = some (n, p + (k + 1)) → (putI n == (s.extract p (p + k + 1)).toList) = true := fun h1 => ref_same s p k n h1
        have hpar : ((((y : Int) + (s[p + k].toNat : Int) % 128 * 2 ^ (7 * k)) % 2 == 1) = true ∧ Hid (-(((y : Int) + (s[p + k].toNat : Int) % 128 * 2 ^ (7 * k)) / 2) - 1 = n)) ∨
            ((((y : Int) + (s[p + k].toNat : Int) % 128 * 2 ^ (7 * k)) % 2 == 1) = false ∧ Hid (((y : Int) + (s[p + k].toNat : Int) % 128 * 2 ^ (7 * k)) / 2 = n)) := by
          rw [HZ3.out, ← Hn.out]
          unfold unfold'
          by_cases ho : Z % 2 = 1
          · left
            rw [if_pos ho]
            exact ⟨by rw [beq_iff_eq]; omega, Lib.hid (by omega)⟩
          · right
            rw [if_neg ho]
            exact ⟨by rw [beq_eq_false_iff_ne]; omega, Lib.hid (by omega)⟩
        have HCh := Lib.hid HC
        have HSh := Lib.hid HS
        clear HC HS
        have hl4 : (p : Int) + (k : Int) + 1 ≤ (s.size : Int) := by omega
        rcases hpar with ⟨hodd, HN⟩ | ⟨hodd, HN⟩
        all_goals
          rcases HG.out with ⟨hg, hf⟩ | hg
          · have hcmp := HSh.out hg
            have HI := Lib.hid (intF_some _ _ Hsl.out _ _ hg)
            have hf1 : -4611686018427387903 ≤ n := hf.1
            have hf2 : n ≤ 4611686018427387903 := hf.2
            clear hg hf
            go_wp2_with fail
            rw [HN.out]
            refine (refPut_yes n _ hf1 hf2).mono ?_
            rintro e w1 ⟨rfl, b1⟩
            clear hodd hx0 hx1 hx2
            go_wp2_with fail
            go_ret3
            exact ⟨by rw [HI.out]; exact ret_ints rfl (by dsimp only; omega) rfl, b1⟩
          · have HI := Lib.hid (intF_none _ _ Hsl.out hg)
            by_cases hf : Fits n
            · have hcmp := HCh.out hg hf
              have hf1 : -4611686018427387903 ≤ n := hf.1
              have hf2 : n ≤ 4611686018427387903 := hf.2
              clear hg hf
              go_wp2_with fail
              rw [HN.out]
              refine (refPut_yes n _ hf1 hf2).mono ?_
              rintro e w1 ⟨rfl, b1⟩
              clear hodd hx0 hx1 hx2
              go_wp2_with fail
              go_ret3
              exact ⟨by rw [HI.out]; rfl, b1⟩
            · by_cases hlow : n < -4611686018427387903
              · clear hg hf
                go_wp2_with fail
                rw [HN.out]
                refine (refPut_low n _ hlow).mono ?_
                rintro e w1 ⟨rfl, rfl⟩
                clear hodd hx0 hx1 hx2
                go_wp2_with fail
                go_ret3
                exact ⟨by rw [HI.out]; rfl, Below.refl _ _⟩
              · have hhigh : 4611686018427387903 < n := by unfold Fits at hf; omega
                clear hg hf hlow
                go_wp2_with fail
                rw [HN.out]
                refine (refPut_high n _ hhigh).mono ?_
                rintro e w1 ⟨rfl, rfl⟩
                clear hodd hx0 hx1 hx2
                go_wp2_with fail
                go_ret3
                exact ⟨by rw [HI.out]; rfl, Below.refl _ _⟩
    · have HI := Lib.hid (intF_none s.data.toList p Hsl.out (get_end s.data.toList p k y (by
        rw [HR.out]
        by_cases h9 : 9 ≤ k
        · rw [show 9 - k = 0 by omega]; rfl
        · rw [List.drop_of_length_le (by simp; omega), show 9 - k = (9 - (k + 1)) + 1 by omega]; rfl)))
      by_cases h9 : (k : Int) < 9
      · have h10 : (s.size : Int) ≤ (p : Int) + (k : Int) := by omega
        clear hlt
        go_wp2_with fail
        go_ret3
        exact ⟨by rw [HI.out]; rfl, Below.refl _ _⟩
      · have h10 : (9 : Int) ≤ (k : Int) := by omega
        clear hlt h9
        go_wp2_with fail
        go_ret3
        exact ⟨by rw [HI.out]; rfl, Below.refl _ _⟩

end Go.Proofs.YtnbeebndcgoalaaDoor
