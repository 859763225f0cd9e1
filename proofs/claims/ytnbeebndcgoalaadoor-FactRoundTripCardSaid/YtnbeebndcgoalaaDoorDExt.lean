/- The contract of the reference implementation's extended: it returns a row of its own with the padded string. -/
import Derived.Test.YtnbeebndcgoalaaDoorDGen
namespace Go.Proofs.YtnbeebndcgoalaaDoor
open Go.RowKit
def padT (s : ByteArray) : List UInt8 := s.data.toList ++ 128 :: List.replicate (padZ s.size) 0
theorem padF_padT (s : ByteArray) : padF s.data.toList = padT s ++ be8 (8 * s.size) := by
  unfold padF padT
  simp
theorem be8_snoc (n j : Nat) (h : j < 8) : (be8 n).take (j + 1) = (be8 n).take j ++ [UInt8.ofNat (n / 2 ^ (8 * (7 - j)))] := by
  have hl : j < (be8 n).length := by simp [be8]; omega
  rw [List.take_succ_eq_append_getElem hl]
  simp [be8]

set_option maxRecDepth 100000 in
set_option maxHeartbeats 4000000 in
theorem extended_calls (s : ByteArray) (w : World) (hs : s.size ≤ 1000000) :
    Calls Tryd.prog 61 #[.string s] w fun e W' => ∃ v, e = .returned v ∧ W'.ownsRow w.heap.size 5 1 v (padF s.data.toList).length (cells8 (padF s.data.toList)) ∧ Below w.heap.size w W' := by
  obtain ⟨i0, hi, hz0, hz1, hz2⟩ := info_parts (show (Tryd.prog.info? 5).map (fun i => (i.zero, i.size, i.bytes)) = some (some (.int .u8 0), 1, 1) from by kernel_rfl)
  go_enter Tryd.func61, Tryd.ntmps61
  go_wp2_with fail
  go_loopw [3, 4] (fun bv iv wr => ∃ k : Nat, k ≤ s.size ∧ iv = .int .i64 k ∧ Hid (wr.ownsRow w.heap.size 5 1 bv k (cells8 (s.data.toList.take k))) ∧ Below w.heap.size w wr)
    (fun _ iv _ => s.size - (intOf iv).toNat)
  case atStart => exact ⟨0, by omega, rfl, Lib.hid (World.ownsRow_nil _ _ _ _), Below.refl _ _⟩
  case round =>
    obtain ⟨k, hk, rfl, Ho, bR⟩ := hrel
    by_cases hlt : k < s.size
    · have Hc : Hid (cells8 (s.data.toList.take (k + 1)) = cells8 (s.data.toList.take k) ++ [.int .u8 ((s[k].toNat : Nat) : Int)]) := Lib.hid (by rw [take_snoc s k hlt]; exact cells8_snoc _ _ _ rfl)
      go_wp2_with (at_builtin; refine wpList_append_own _ rfl _ _ 69 rfl w.heap.size 5 i0 (.int .u8 0) 1 1 Tryd.underlying69 hi hz0 hz1 hz2 rfl (by decide) _ _ _ rfl (Ho.out.alloc _) ⟨wr.heap.size, 0, none⟩ 1 1 [.int .u8 ((s[k].toNat : Nat) : Int)] rfl rfl ?c1 ?c2 ?c3 ?c4 ?c5 ?_)
      case c1 => exact cell_one_new _ _ _
      case c2 => simp [Value.oneCell']
      case c3 => unfold maxLen; omega
      case c4 => omega
      case c5 => have := bR.size; simp; omega
      intro v' w1 hown' hgrow _
      have bS : Below w.heap.size w w1 := (bR.alloc bR.size _).grown hgrow (by have := bR.size; simp; omega) (fun q e => (Ho.out.lt q e).1)
      have Hown := Lib.hid hown'
      clear hown' hgrow
      go_wp2_with fail
      go_roundw
      case rel => exact ⟨k + 1, by omega, by go_num, Lib.hid (by rw [Hc.out]; exact Hown.out), bS⟩
      case measure => simp [intOf]; omega
    · obtain rfl : k = s.size := by omega
      have hl0 : (s.size : Int) ≤ (s.size : Int) := by omega
      have Hc : Hid (cells8 (s.data.toList.take s.size) ++ [.int .u8 128] = cells8 (s.data.toList ++ 128 :: List.replicate 0 0)) := Lib.hid (by
        rw [List.take_of_length_le (by simp)]
        exact (cells8_snoc _ 128 _ rfl).symm)
      clear hlt hk
      go_wp2_with (at_builtin; refine wpList_append_own _ rfl _ _ 69 rfl w.heap.size 5 i0 (.int .u8 0) 1 1 Tryd.underlying69 hi hz0 hz1 hz2 rfl (by decide) _ _ _ rfl (Ho.out.alloc _) ⟨wr.heap.size, 0, none⟩ 1 1 [.int .u8 128] rfl rfl ?d1 ?d2 ?d3 ?d4 ?d5 ?_)
      case d1 => exact cell_one_new _ _ _
      case d2 => simp [Value.oneCell']
      case d3 => unfold maxLen; omega
      case d4 => omega
      case d5 => have := bR.size; simp; omega
      intro v' w1 hown' hgrow _
      have bS : Below w.heap.size w w1 := (bR.alloc bR.size _).grown hgrow (by have := bR.size; simp; omega) (fun q e => (Ho.out.lt q e).1)
      rw [Hc.out] at hown'
      obtain ⟨g1, c1, rfl⟩ := ownsRow_succ hown'
      have Hown := Lib.hid hown'
      clear hown' hgrow Hc Ho bR
      go_wp2_with fail
      go_loopw [3] (fun bv wr => ∃ z : Nat, z ≤ padZ s.size ∧ (∃ g cap, bv = .slice (some ⟨g, 0, none⟩) (s.size + 1 + z) cap) ∧ Hid (wr.ownsRow w.heap.size 5 1 bv (s.size + 1 + z) (cells8 (s.data.toList ++ 128 :: List.replicate z 0))) ∧ Below w.heap.size w wr)
        (fun bv _ => s.size + 1 + padZ s.size - lenV bv)
      case atStart => exact ⟨0, by omega, ⟨g1, c1, rfl⟩, Hown, bS⟩
      case round =>
        obtain ⟨z, hz, ⟨g, cap, rfl⟩, Ho, bR⟩ := hrel
        clear Hown bS
        have hpz : padZ s.size ≤ 63 := by unfold padZ; omega
        by_cases hlt : z < padZ s.size
        · have hn : (((s.size : Int) + 1 + (z : Int)) % 64 != 56) = true := by
            rw [bne_iff_ne]; unfold padZ at hlt hz; omega
          have Hc : Hid (cells8 (s.data.toList ++ 128 :: List.replicate (z + 1) 0) = cells8 (s.data.toList ++ 128 :: List.replicate z 0) ++ [.int .u8 0]) := Lib.hid (by
            have h := cells8_snoc (s.data.toList ++ 128 :: List.replicate z 0) 0 0 rfl
            rw [← h, List.replicate_succ']; simp)
          go_wp2_with (at_builtin; refine wpList_append_own _ rfl _ _ 69 rfl w.heap.size 5 i0 (.int .u8 0) 1 1 Tryd.underlying69 hi hz0 hz1 hz2 rfl (by decide) _ _ _ rfl (Ho.out.alloc _) ⟨wr.heap.size, 0, none⟩ 1 1 [.int .u8 0] rfl rfl ?e1 ?e2 ?e3 ?e4 ?e5 ?_)
          case e1 => exact cell_one_new _ _ _
          case e2 => simp [Value.oneCell']
          case e3 => unfold maxLen; omega
          case e4 => omega
          case e5 => have := bR.size; simp; omega
          intro v' w1 hown' hgrow _
          have bS : Below w.heap.size w w1 := (bR.alloc bR.size _).grown hgrow (by have := bR.size; simp; omega) (fun q e => (Ho.out.lt q e).1)
          rw [← Hc.out] at hown'
          obtain ⟨g2, c2, rfl⟩ := ownsRow_succ hown'
          have Hown := Lib.hid hown'
          clear hown' hgrow Hc hn
          go_wp2_with fail
          go_roundw
          case rel => exact ⟨z + 1, by omega, ⟨g2, c2, rfl⟩, Hown, bS⟩
          case measure => simp [lenV]; omega
        · obtain rfl : z = padZ s.size := by omega
          have hn : (((s.size : Int) + 1 + (padZ s.size : Int)) % 64 != 56) = false := by
            rw [bne_eq_false_iff_eq]; unfold padZ; omega
          clear hlt hz
          go_wp2_with fail
          have hT : (padT s).length = s.size + 1 + padZ s.size := by simp [padT]; omega
          have H3 : Hid (wr.ownsRow w.heap.size 5 1 (.slice (some ⟨g, 0, none⟩) (s.size + 1 + padZ s.size) cap) (s.size + 1 + padZ s.size + 0) (cells8 (padT s ++ (be8 (8 * s.size)).take 0))) := Lib.hid (by
            have := Ho.out
            simpa [padT] using this)
          clear hn Ho
          generalize padZ s.size = Z at H3 hpz hT ⊢
          go_loopw [3, 5] (fun bv iv wr => ∃ j : Nat, j ≤ 8 ∧ iv = .int .i64 (7 - (j : Int)) ∧ (∃ g cap, bv = .slice (some ⟨g, 0, none⟩) (s.size + 1 + Z + j) cap) ∧ Hid (wr.ownsRow w.heap.size 5 1 bv (s.size + 1 + Z + j) (cells8 (padT s ++ (be8 (8 * s.size)).take j))) ∧ Below w.heap.size w wr)
            (fun _ iv _ => (intOf iv + 1).toNat)
          case atStart => exact ⟨0, by omega, by go_num, ⟨g, cap, rfl⟩, H3, bR⟩
          case round =>
            obtain ⟨j, hj, rfl, ⟨g, cap, rfl⟩, Ho, bR⟩ := hrel
            clear H3
            by_cases hlt : j < 8
            · have hj0 : (0 : Int) ≤ 7 - (j : Int) := by omega
              have Hc : Hid (cells8 (padT s ++ (be8 (8 * s.size)).take (j + 1)) = cells8 (padT s ++ (be8 (8 * s.size)).take j) ++ [.int .u8 (8 * (s.size : Int) / 2 ^ (8 * (7 - j)) % 256)]) := Lib.hid (by
                rw [be8_snoc _ _ hlt, ← List.append_assoc]
                exact cells8_snoc _ _ _ (by simp))
              go_wp2_with (at_builtin; refine wpList_append_own _ rfl _ _ 69 rfl w.heap.size 5 i0 (.int .u8 0) 1 1 Tryd.underlying69 hi hz0 hz1 hz2 rfl (by decide) _ _ _ rfl (Ho.out.alloc _) ⟨wr.heap.size, 0, none⟩ 1 1 [.int .u8 (8 * (s.size : Int) / 2 ^ (8 * (7 - j)) % 256)] rfl rfl ?f1 ?f2 ?f3 ?f4 ?f5 ?_)
              case f1 => exact cell_one_new _ _ _
              case f2 => simp [Value.oneCell']
              case f3 => unfold maxLen; omega
              case f4 => omega
              case f5 => have := bR.size; simp; omega
              intro v' w1 hown' hgrow _
              have bS : Below w.heap.size w w1 := (bR.alloc bR.size _).grown hgrow (by have := bR.size; simp; omega) (fun q e => (Ho.out.lt q e).1)
              rw [← Hc.out] at hown'
              obtain ⟨g2, c2, rfl⟩ := ownsRow_succ hown'
              have Hown := Lib.hid hown'
              clear hown' hgrow Hc hj0
              go_wp2_with fail
              go_roundw
              case rel => exact ⟨j + 1, by omega, by go_num, ⟨g2, c2, rfl⟩, Hown, bS⟩
              case measure => simp [intOf]; omega
            · obtain rfl : j = 8 := by omega
              clear hlt hj
              go_wp2_with fail
              go_ret
              have h := Ho.out
              rw [List.take_of_length_le (by simp [be8]), ← padF_padT] at h
              have hl : (padF s.data.toList).length = s.size + 1 + Z + 8 := by
                rw [padF_padT, List.length_append, hT]; simp [be8]
              exact ⟨_, rfl, by rw [hl]; exact h, bR⟩
end Go.Proofs.YtnbeebndcgoalaaDoor
