/- Contracts of the small functions of package digest: rotate, firstPart, splitLast, areDigests. -/
import Derived.Test.YtinioifhbafngaaDoorRefRoot
namespace Go.Proofs.YtinioifhbafngaaDoor
open Go.RowKit

theorem rotate_calls (x n : Nat) (w : World) (hx : x < 4294967296) (h1 : 1 ≤ n) (hn : n ≤ 31) :
    Calls Tryd.prog 56 #[.int .u32 (x : Int), .int .i64 (n : Int)] w fun e w' => e = .returned (.int .u32 ((rotN x n : Nat) : Int)) ∧ w' = w.drewN 1 := by
  have HE : Hid (bits BinOp.or IntKind.u32 ((x : Int) / 2 ^ n) ((x : Int) * 2 ^ (32 - n) % 4294967296) = ((rotN x n : Nat) : Int)) := Lib.hid (by
    have h2 : x / 2 ^ n ≤ x := Nat.div_le_self _ _
    have h3 := u32_or (x / 2 ^ n) (x * 2 ^ (32 - n) % 4294967296) (by omega) (by omega)
    unfold rotN
    rw [Nat.shiftRight_eq_div_pow, Nat.shiftLeft_eq, ← h3]
    simp)
  go_enter Tryd.func56, Tryd.ntmps56
  go_wp2
  go_region
  all_goals go_wp2_with fail
  go_ret
  exact ⟨by rw [← HE.out]; rfl, rfl⟩
theorem rotate_quiet (x : Nat) (z : Int) (w : World) (N : Nat) (hx : x < 4294967296) (h1 : 1 ≤ z) (hn : z ≤ 31) :
    Calls Tryd.prog 56 #[.int .u32 (x : Int), .int .i64 z] (w.drewN N) fun e w' => e = .returned (.int .u32 ((rotN x z.toNat : Nat) : Int)) ∧ ∃ m, w' = w.drewN m := by
  obtain ⟨n, rfl⟩ := Int.eq_ofNat_of_zero_le (show 0 ≤ z by omega)
  exact Calls.quiet_of ((rotate_calls x n _ hx (by omega) (by omega)).mono fun _ _ ⟨he, hw⟩ => ⟨he, 1, hw⟩)

theorem firstPart_calls (n : Nat) (w : World) (h2 : 2 ≤ n) (hn : n ≤ 9223372036854775807) :
    Calls Tryd.prog 44 #[.int .i64 (n : Int)] w fun e w' => e = .returned (.int .i64 ((left n : Nat) : Int)) ∧ w = w' := by
  go_enter Tryd.func44, Tryd.ntmps44
  go_wp2
  go_loop [3] (fun kv => ∃ k : Nat, kv = .int .i64 k ∧ 1 ≤ k ∧ k < n ∧ Hid (∃ f, left n = leftA f k n ∧ n ≤ k + f)) (fun kv => n - (intOf kv).toNat)
  case atStart => exact ⟨1, rfl, by omega, by omega, Lib.hid ⟨n, rfl, by omega⟩⟩
  case round =>
    obtain ⟨k, rfl, hk1, hkn, HF⟩ := hrel
    by_cases hlt : (k : Int) < (n : Int) - (k : Int)
    · have HG : Hid (∃ f, left n = leftA f (2 * k) n ∧ n ≤ 2 * k + f) := Lib.hid (by
        obtain ⟨f, h1, h2⟩ := HF.out
        obtain ⟨g, h3, h4⟩ := leftA_next f k n hk1 hkn h2 (by omega)
        exact ⟨g, by rw [h1, h3], h4⟩)
      go_wp2_with fail
      go_round
      case rel => exact ⟨2 * k, by go_num, by omega, by omega, HG⟩
      case measure => simp [intOf]; omega
    · have HG : Hid (left n = k) := Lib.hid (by
        obtain ⟨f, h1, h2⟩ := HF.out
        rw [h1, leftA_last f k n (by omega)])
      go_wp2_with fail
      go_ret
      exact ⟨by rw [HG.out]; rfl, rfl⟩

/-- The last string is split off. -/
theorem splitLast_calls (l : List Bs) (x : Bs) (b o cap : Nat) (w : World) (hs : StrsAt w b o (l ++ [x])) (hc : l.length + 1 ≤ cap) (hl : l.length ≤ 1000000) :
    Calls Tryd.prog 53 #[.slice (some ⟨b, o, none⟩) (l.length + 1) cap] w fun e w' => e = .returned (.tuple #[.slice (some ⟨b, o, none⟩) l.length cap, .string ⟨x.toArray⟩]) ∧ ∃ m, w' = w.drewN m := by
  have hx : w.cell? ⟨b, o + l.length, none⟩ = some (.string ⟨x.toArray⟩) := by
    have := hs l.length (by simp)
    simpa using this
  clear hs
  generalize l.length = n at *
  have h1 : (n : Int) ≤ (cap : Int) := by omega
  have h2 : ((n : Int) + 1) ≤ (cap : Int) := by omega
  go_enter Tryd.func53, Tryd.ntmps53
  go_wp2_with fail
  go_quiet (fail)
  go_wp2_with fail
  refine bodyPost_ret (results_tmp2 rfl _ _ _) rfl ?_
  exact ⟨rfl, _, rfl⟩

/-- All strings have 32 bytes. -/
theorem areDigests_main (l : List Bs) (b o cap : Nat) (w : World) (hs : StrsAt w b o l) (hl : l.length ≤ 1000000) (hx : ∀ x ∈ l, x.length ≤ 9223372036854775807) :
    Calls Tryd.prog 45 #[.slice (some ⟨b, o, none⟩) l.length cap] w fun e w' => e = .returned (.bool (decide (∀ x ∈ l, x.length = 32))) ∧ w = w' := by
  have Hs := Lib.hid hs
  have Hx := Lib.hid hx
  clear hs hx
  obtain ⟨n, hn⟩ : ∃ n, l.length = n := ⟨_, rfl⟩
  rw [hn] at hl ⊢
  have Hn := Lib.hid hn
  clear hn
  go_enter Tryd.func45, Tryd.ntmps45
  go_wp2_with fail
  go_loop [7] (fun iv => ∃ i : Nat, iv = .int .i64 i ∧ i ≤ n ∧ Hid (∀ x ∈ l.take i, x.length = 32)) (fun iv => n - (intOf iv).toNat)
  case atStart => exact ⟨0, rfl, by omega, Lib.hid (by simp)⟩
  case round =>
    obtain ⟨i, rfl, hi, HA⟩ := hrel
    by_cases hlt : i < n
    · have hc := Hs.out i (by rw [Hn.out]; exact hlt)
      have hil : i < l.length := by rw [Hn.out]; exact hlt
      have hm : l.getD i [] ∈ l := by
        rw [List.getD_eq_getElem?_getD, List.getElem?_eq_getElem hil]; exact List.getElem_mem _
      have Hlen := Lib.hid (Hx.out _ hm)
      have Hm := Lib.hid hm
      have Hsn : Hid (l.take (i + 1) = l.take i ++ [l.getD i []]) := Lib.hid (by
        rw [List.take_succ_eq_append_getElem hil, List.getD_eq_getElem?_getD, List.getElem?_eq_getElem hil]; rfl)
      clear hm hil
      have Hsz : Hid ((⟨(l.getD i []).toArray⟩ : ByteArray).size = (l.getD i []).length) := Lib.hid (mk_size _)
      generalize l.getD i [] = x at *
      by_cases h32 : x.length = 32
      · have HA2 : Hid (∀ y ∈ l.take (i + 1), y.length = 32) := Lib.hid (by
          rw [Hsn.out]
          intro y hy
          rcases List.mem_append.1 hy with h | h
          · exact HA.out y h
          · rw [List.mem_singleton] at h; rw [h]; exact h32)
        have hz : (⟨x.toArray⟩ : ByteArray).size = 32 := by rw [mk_size]; exact h32
        go_wp2_with fail
        go_round
        case rel => exact ⟨i + 1, by go_num, by omega, HA2⟩
        case measure => simp [intOf]; omega
      · have HF : Hid (decide (∀ x ∈ l, x.length = 32) = false) := Lib.hid (by
          rw [decide_eq_false_iff_not]
          intro h
          exact h32 (h x Hm.out))
        have hz : ((((⟨x.toArray⟩ : ByteArray).size : Nat) : Int) == 32) = false := by rw [mk_size, beq_eq_false_iff_ne]; omega
        have hz2 : (((((⟨x.toArray⟩ : ByteArray).size : Nat) : Int)) != 32) = true := by rw [bne, hz]; rfl
        go_wp2_with fail
        go_ret
        exact ⟨by rw [HF.out]; rfl, rfl⟩
    · have HT : Hid (decide (∀ x ∈ l, x.length = 32) = true) := Lib.hid (by
        rw [decide_eq_true_iff]
        have := HA.out
        rwa [List.take_of_length_le (by have := Hn.out; omega)] at this)
      go_wp2_with fail
      go_ret
      exact ⟨by rw [HT.out]; rfl, rfl⟩
end Go.Proofs.YtinioifhbafngaaDoor
