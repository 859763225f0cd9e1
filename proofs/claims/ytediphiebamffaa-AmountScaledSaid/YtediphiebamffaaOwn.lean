/- Contracts of package amount: upTo, all, Cents, MulDiv, Percent, divide, Sum: for every argument (lists of at most a million integers). -/
import Derived.Test.YtediphiebamffaaDv
namespace Go.Proofs.Ytediphiebamffaa
open Go.RowKit

abbrev upFn (B : Nat) : Value := .func (.func 36) #[] #[.pointer (some ⟨B, 0, none⟩)]
theorem upTo_calls (M : Int) (w : World) : Calls Try.prog 29 #[.int .i64 M] w fun e w' => e = .returned (upFn w.heap.size) ∧ w' = w.alloc (.cells #[.int .i64 M] 3) := by
  go_enter Try.func29, Try.ntmps29
  go_wp2_with fail
  go_ret
  exact ⟨rfl, rfl⟩
theorem up_yes (n M : Int) (B : Nat) (w : World) (hc : w.cell? ⟨B, 0, none⟩ = some (.int .i64 M)) (h0 : 0 ≤ n) (h1 : n ≤ M) :
    Calls Try.prog 36 #[.int .i64 n, .pointer (some ⟨B, 0, none⟩)] w fun e w' => e = .returned (.bool true) ∧ w = w' := by
  go_enter Try.func36, Try.ntmps36
  go_wp2_with fail
  go_ret
  exact ⟨rfl, rfl⟩
theorem up_no (n M : Int) (B : Nat) (w : World) (hc : w.cell? ⟨B, 0, none⟩ = some (.int .i64 M)) (h : ¬ (0 ≤ n ∧ n ≤ M)) :
    Calls Try.prog 36 #[.int .i64 n, .pointer (some ⟨B, 0, none⟩)] w fun e w' => e = .returned (.bool false) ∧ w = w' := by
  by_cases h0 : 0 ≤ n
  · have h1 : decide (n ≤ M) = false := by simp; omega
    clear h
    go_enter Try.func36, Try.ntmps36
    go_wp2_with fail
    go_ret
    exact ⟨rfl, rfl⟩
  · have h1 : decide (0 ≤ n) = false := by simp; omega
    clear h h0
    go_enter Try.func36, Try.ntmps36
    go_wp2_with fail
    go_ret
    exact ⟨rfl, rfl⟩
/-- Whether all numbers are from 0 to M. -/
def allB (M : Int) (l : List Int) : Bool := l.all fun n => decide (0 ≤ n ∧ n ≤ M)
theorem allB_step (M : Int) (l : List Int) (k : Nat) (hk : k < l.length) : allB M (l.drop k) = (decide (0 ≤ l.getD k 0 ∧ l.getD k 0 ≤ M) && allB M (l.drop (k + 1))) := by
  rw [List.drop_eq_getElem_cons hk, List.getD_eq_getElem?_getD, List.getElem?_eq_getElem hk]
  rfl

set_option maxHeartbeats 1000000 in
theorem all_main (M : Int) (B : Nat) (l : List Int) (b o cap : Nat) (w : World) (hc : w.cell? ⟨B, 0, none⟩ = some (.int .i64 M)) (hs : IntsAt w b o l) (hl : l.length ≤ 1000000) :
    Calls Try.prog 28 #[upFn B, .slice (some ⟨b, o, none⟩) l.length cap] w fun e w' => e = .returned (.bool (allB M l)) ∧ w = w' := by
  have Hs := Lib.hid hs
  have HC := Lib.hid hc
  have Hd := Lib.hid (allB_step M l)
  have He : Hid (allB M (l.drop l.length) = true) := Lib.hid (by rw [List.drop_length]; rfl)
  clear hs hc
  obtain ⟨n, hn⟩ : ∃ n, l.length = n := ⟨_, rfl⟩
  rw [hn] at hl Hd He
  rw [hn]
  have Hn := Lib.hid hn
  clear hn
  obtain ⟨R, hR⟩ : ∃ R, allB M l = R := ⟨_, rfl⟩
  rw [hR]
  have HR : Hid (allB M (l.drop 0) = R) := Lib.hid (by rw [List.drop_zero]; exact hR)
  clear hR
  go_enter Try.func28, Try.ntmps28
  go_wp2_with fail
  go_loop [9] (fun iv => ∃ i : Nat, i ≤ n ∧ iv = .int .i64 i ∧ Hid (allB M (l.drop i) = R)) (fun iv => n - (intOf iv).toNat)
  case atStart => exact ⟨0, by omega, rfl, HR⟩
  case round =>
    obtain ⟨i, hi, rfl, HS⟩ := hrel
    clear HR
    by_cases hlt : i < n
    · have hc := Hs.out i (by rw [Hn.out]; exact hlt)
      have hd := Hd.out i hlt
      rw [HS.out] at hd
      have k0 : (0 : Int) ≤ (i : Int) := by omega
      have k1 : (i : Int) < (n : Int) := by omega
      generalize l.getD i 0 = x at *
      by_cases hx : 0 ≤ x ∧ x ≤ M
      · rw [decide_eq_true hx, Bool.true_and] at hd
        have Hd' := Lib.hid hd.symm
        clear hd HS
        go_wp2_with fail
        refine (up_yes x M B _ HC.out hx.1 hx.2).mono ?_
        rintro e w' ⟨rfl, rfl⟩
        clear hx
        go_wp2_with fail
        go_round
        case rel => exact ⟨i + 1, by omega, by go_num, Hd'⟩
        case measure => simp [intOf]; omega
      · rw [decide_eq_false hx, Bool.false_and] at hd
        have Hd' := Lib.hid hd
        clear hd HS
        go_wp2_with fail
        refine (up_no x M B _ HC.out hx).mono ?_
        rintro e w' ⟨rfl, rfl⟩
        clear hx
        go_wp2_with fail
        go_ret
        exact ⟨by rw [Hd'.out]; rfl, rfl⟩
    · obtain rfl : i = n := by omega
      have hd := HS.out
      rw [He.out] at hd
      have Hd' := Lib.hid hd
      clear hd HS
      go_wp2_with fail
      go_ret
      exact ⟨by rw [← Hd'.out]; rfl, rfl⟩
theorem all_none (fv : Value) (A : Option Addr) (cap : Nat) (w : World) : Calls Try.prog 28 #[fv, .slice A 0 cap] w fun e w' => e = .returned (.bool true) ∧ w = w' := by
  go_enter Try.func28, Try.ntmps28
  go_wp2_with fail
  go_loop [9] (fun iv => iv = .int .i64 0) (fun _ => 0)
  case atStart => rfl
  case round =>
    obtain rfl := hrel
    go_wp2_with fail
    go_ret
    exact ⟨rfl, rfl⟩
theorem all_calls (M : Int) (B : Nat) (l : List Int) (A : Option Addr) (cap : Nat) (w : World) (hc : w.cell? ⟨B, 0, none⟩ = some (.int .i64 M)) (hs : Ints w A l) (hl : l.length ≤ 1000000) :
    Calls Try.prog 28 #[upFn B, .slice A l.length cap] w fun e w' => e = .returned (.bool (allB M l)) ∧ w = w' := by
  rcases hs with rfl | ⟨b, o, rfl, hs⟩
  · exact all_none _ A cap w
  · exact all_main M B l b o cap w hc hs hl
theorem up_cell (w : World) (M : Int) : (w.alloc (.cells #[.int .i64 M] 3)).cell? ⟨w.heap.size, 0, none⟩ = some (.int .i64 M) := by
  rw [cell_of_row _ _ _ _ _ _ (heap_alloc_new w _)]; rfl

/-! ### Cents -/
theorem own_cents (n : Int) (w : World) (h1 : -9223372036854775808 ≤ n) (h2 : n ≤ 9223372036854775807) :
    Calls Try.prog 23 #[.int .i64 n] w fun e w' => e = .returned (.tuple #[.int .i64 (if n < 0 then 0 else n / 10000 * 10000), .int .i64 (if n < 0 then n else n % 10000)]) ∧ w = w' := by
  by_cases h : n < 0
  · rw [if_pos h, if_pos h]
    go_enter Try.func23, Try.ntmps23
    go_wp2_with fail
    refine bodyPost_ret (results_tmp2 rfl _ _ _) rfl ?_
    exact ⟨rfl, rfl⟩
  · rw [if_neg h, if_neg h]
    have h0 : 0 ≤ n := by omega
    have e : n - n % 10000 = n / 10000 * 10000 := by omega
    have E := Lib.hid e
    clear e
    go_enter Try.func23, Try.ntmps23
    go_wp2_with fail
    refine bodyPost_ret (results_tmp2 rfl _ _ _) rfl ?_
    exact ⟨by rw [← E.out]; rfl, rfl⟩

/-! ### Division -/
theorem div64_calls (hi lo y : Nat) (w : World) (hh : hi < y) (hy : y < 18446744073709551616) (hlo : lo < 18446744073709551616) :
    Calls Try.prog 31 #[.int .u64 (hi : Int), .int .u64 (lo : Int), .int .u64 (y : Int)] w fun e w' => e = .returned (divT hi lo y) ∧ Below w.heap.size w w' := by
  by_cases h : hi = 0
  · subst h
    exact div64_low lo y w (by omega) hy hlo
  · exact div64_high hi lo y w (by omega) hh hy hlo
/-- What MulDiv answers. -/
def mdV (a b c : Int) : Value := if 0 ≤ a ∧ 0 ≤ b ∧ 1 ≤ c ∧ a * b / c ≤ 4611686018427387903 then .tuple #[.int .i64 (a * b / c), .bool true] else .tuple #[.int .i64 0, .bool false]
theorem mdV_nat (a b c : Nat) (h : 1 ≤ c) : mdV a b c = if a * b / c ≤ 4611686018427387903 then .tuple #[.int .i64 ((a * b / c : Nat) : Int), .bool true] else .tuple #[.int .i64 0, .bool false] := by
  unfold mdV
  rw [← Int.natCast_mul, ← Int.natCast_ediv]
  by_cases h2 : a * b / c ≤ 4611686018427387903
  · rw [if_pos h2, if_pos ⟨by omega, by omega, by omega, by omega⟩]
  · rw [if_neg h2, if_neg (fun h3 => h2 (by have := h3.2.2.2; omega))]
theorem hl_join (a b : Nat) : a * b / 18446744073709551616 * 18446744073709551616 + a * b % 18446744073709551616 = a * b := by
  have := Nat.div_add_mod (a * b) 18446744073709551616
  omega
theorem high_lt (a b c : Nat) (h : a * b / c ≤ 4611686018427387903) (hc : 1 ≤ c) : a * b / 18446744073709551616 < c := by
  rw [Nat.div_lt_iff_lt_mul (by decide)]
  have h2 : a * b / c < 18446744073709551616 := by omega
  rw [Nat.div_lt_iff_lt_mul (by omega), Nat.mul_comm 18446744073709551616] at h2
  exact h2
set_option maxRecDepth 100000 in
set_option maxHeartbeats 1000000 in
theorem mulDiv_nat (a b c : Nat) (w : World) (ha : a ≤ 9223372036854775807) (hb : b ≤ 9223372036854775807) (h1 : 1 ≤ c) (hc : c ≤ 9223372036854775807) :
    Calls Try.prog 14 #[.int .i64 (a : Int), .int .i64 (b : Int), .int .i64 (c : Int)] w fun e w' => e = .returned (mdV a b c) ∧ Below w.heap.size w w' := by
  obtain ⟨V, hV⟩ : ∃ V, mdV a b c = V := ⟨_, rfl⟩
  rw [hV]
  rw [mdV_nat a b c h1] at hV
  have HV1 : Hid (a * b / c ≤ 4611686018427387903 → V = .tuple #[.int .i64 ((a * b / c : Nat) : Int), .bool true]) := Lib.hid (fun h => by rw [← hV, if_pos h])
  have HV2 : Hid (¬ a * b / c ≤ 4611686018427387903 → V = .tuple #[.int .i64 0, .bool false]) := Lib.hid (fun h => by rw [← hV, if_neg h])
  clear hV
  have HJ := Lib.hid (hl_join a b)
  have HL := Lib.hid (high_lt a b c)
  have hm : a * b % 18446744073709551616 < 18446744073709551616 := Nat.mod_lt _ (by decide)
  have hmul := fun W' => mul64_calls a b (by omega) (by omega) W'
  have HM := Lib.hid hmul
  clear hmul
  have hall : allB 9223372036854775807 [(a : Int), (b : Int)] = true := by
    unfold allB
    simp only [List.all_cons, List.all_nil, Bool.and_true, Bool.and_eq_true, decide_eq_true_iff]
    omega
  have HB := Lib.hid hall
  clear hall
  have hhb : a * b / 18446744073709551616 < 18446744073709551616 := by
    rw [Nat.div_lt_iff_lt_mul (by decide)]
    exact Nat.lt_of_le_of_lt (Nat.mul_le_mul ha hb) (by decide)
  generalize a * b / 18446744073709551616 = hi at *
  generalize a * b % 18446744073709551616 = lo at *
  have k1 : (1 : Int) ≤ (c : Int) := by omega
  go_enter Try.func14, Try.ntmps14
  go_wp2_with fail
  refine (upTo_calls 9223372036854775807 _).mono ?_
  rintro e w1 ⟨rfl, hw1⟩
  have a1 : Hld w w1 := hw1 ▸ (Hld.refl w).alloc _
  have c1 : w1.cell? ⟨w.heap.size, 0, none⟩ = some (.int .i64 9223372036854775807) := hw1 ▸ up_cell w _
  have C1 := Lib.hid c1
  have Z1 := Lib.hid (lt_of_cell c1)
  clear hw1 c1
  go_wp2_with fail
  refine (all_calls 9223372036854775807 w.heap.size [(a : Int), (b : Int)] _ 2 _ ?_ (ints_two w1 _ _ _).ints (by simp)).mono ?_
  · rw [World.cell?_alloc_lt _ _ _ Z1.out]; exact C1.out
  rintro e w2 ⟨rfl, rfl⟩
  rw [HB.out]
  have a2 := a1.alloc (.cells #[.int .i64 (a : Int), .int .i64 (b : Int)] 3)
  generalize w1.alloc (.cells #[.int .i64 (a : Int), .int .i64 (b : Int)] 3) = w2 at *
  clear C1 Z1 a1
  go_wp2_with fail
  refine (HM.out _).mono ?_
  rintro e w3 ⟨rfl, rfl⟩
  by_cases hbig : c ≤ hi
  · have k2 : (c : Int) ≤ (hi : Int) := by omega
    have hno : ¬ a * b / c ≤ 4611686018427387903 := fun h => by have := HL.out h h1; omega
    have HV := Lib.hid (HV2.out hno)
    clear hno hbig HV1 HV2
    go_wp2_with fail
    refine bodyPost_ret (results_tmp2 rfl _ _ _) rfl ?_
    exact ⟨by rw [HV.out]; rfl, Hid.out a2⟩
  · have k2 : decide ((c : Int) ≤ (hi : Int)) = false := decide_eq_false (by omega)
    have k3 : decide (c ≤ hi) = false := decide_eq_false (by omega)
    have hd := div64_calls hi lo c
    unfold divT at hd
    rw [HJ.out] at hd
    have HD := Lib.hid hd
    clear hd
    have hq : a * b / c < 18446744073709551616 := by
      rw [Nat.div_lt_iff_lt_mul (by omega), ← HJ.out]
      have : (hi + 1) * 18446744073709551616 ≤ c * 18446744073709551616 := Nat.mul_le_mul_right _ (by omega)
      rw [Nat.mul_comm 18446744073709551616]
      omega
    generalize a * b / c = q at *
    generalize a * b % c = r at *
    go_wp2_with fail
    refine (HD.out _ (by omega) (by omega) hm).mono ?_
    rintro e w3 ⟨rfl, b3⟩
    have a3 := a2.step b3
    clear b3 a2
    by_cases hbig2 : q ≤ 4611686018427387903
    · have k4 : decide ((4611686018427387903 : Int) < (q : Int)) = false := decide_eq_false (by omega)
      have k5 : IntKind.i64.wrap (q : Int) = (q : Int) := IntWalk.i64_in _ (by omega)
      have HV := Lib.hid (HV1.out hbig2)
      clear hbig hbig2 HV1 HV2
      go_wp2_with fail
      refine bodyPost_ret (results_tmp2 rfl _ _ _) rfl ?_
      exact ⟨by rw [HV.out]; rfl, Hid.out a3⟩
    · have k4 : (4611686018427387903 : Int) < (q : Int) := by omega
      have HV := Lib.hid (HV2.out hbig2)
      clear hbig hbig2 HV1 HV2
      go_wp2_with fail
      refine bodyPost_ret (results_tmp2 rfl _ _ _) rfl ?_
      exact ⟨by rw [HV.out]; rfl, Hid.out a3⟩

theorem mulDiv_c (a b c : Int) (w : World) (h : c < 1) :
    Calls Try.prog 14 #[.int .i64 a, .int .i64 b, .int .i64 c] w fun e w' => e = .returned (mdV a b c) ∧ Below w.heap.size w w' := by
  have HV := Lib.hid (show mdV a b c = .tuple #[.int .i64 0, .bool false] from by unfold mdV; rw [if_neg (fun h2 => by have := h2.2.2.1; omega)])
  go_enter Try.func14, Try.ntmps14
  go_wp2_with fail
  refine bodyPost_ret (results_tmp2 rfl _ _ _) rfl ?_
  exact ⟨by rw [HV.out]; rfl, Below.refl _ _⟩
set_option maxRecDepth 100000 in
theorem mulDiv_neg (a b c : Int) (w : World) (h : 1 ≤ c) (hab : a < 0 ∨ b < 0) (ha : a ≤ 9223372036854775807) (hb : b ≤ 9223372036854775807) :
    Calls Try.prog 14 #[.int .i64 a, .int .i64 b, .int .i64 c] w fun e w' => e = .returned (mdV a b c) ∧ Below w.heap.size w w' := by
  have HV := Lib.hid (show mdV a b c = .tuple #[.int .i64 0, .bool false] from by unfold mdV; rw [if_neg (fun h2 => by have := h2.1; have := h2.2.1; omega)])
  have hall : allB 9223372036854775807 [a, b] = false := by
    unfold allB
    rw [Bool.eq_false_iff]
    intro h2
    simp only [List.all_cons, List.all_nil, Bool.and_true, Bool.and_eq_true, decide_eq_true_iff] at h2
    omega
  have HB := Lib.hid hall
  clear hall hab
  go_enter Try.func14, Try.ntmps14
  go_wp2_with fail
  refine (upTo_calls 9223372036854775807 _).mono ?_
  rintro e w1 ⟨rfl, hw1⟩
  have a1 : Hld w w1 := hw1 ▸ (Hld.refl w).alloc _
  have c1 : w1.cell? ⟨w.heap.size, 0, none⟩ = some (.int .i64 9223372036854775807) := hw1 ▸ up_cell w _
  have C1 := Lib.hid c1
  have Z1 := Lib.hid (lt_of_cell c1)
  clear hw1 c1
  go_wp2_with fail
  refine (all_calls 9223372036854775807 w.heap.size [a, b] _ 2 _ ?_ (ints_two w1 _ _ _).ints (by simp)).mono ?_
  · rw [World.cell?_alloc_lt _ _ _ Z1.out]; exact C1.out
  rintro e w2 ⟨rfl, rfl⟩
  rw [HB.out]
  have a2 := a1.alloc (.cells #[.int .i64 a, .int .i64 b] 3)
  generalize w1.alloc (.cells #[.int .i64 a, .int .i64 b] 3) = w2 at *
  clear C1 Z1 a1
  go_wp2_with fail
  refine bodyPost_ret (results_tmp2 rfl _ _ _) rfl ?_
  exact ⟨by rw [HV.out]; rfl, Hid.out a2⟩
/-- MulDiv, for all integers. -/
theorem mulDiv_calls (a b c : Int) (w : World) (ha : a ≤ 9223372036854775807) (hb : b ≤ 9223372036854775807) (hc : c ≤ 9223372036854775807) :
    Calls Try.prog 14 #[.int .i64 a, .int .i64 b, .int .i64 c] w fun e w' => e = .returned (mdV a b c) ∧ Below w.heap.size w w' := by
  by_cases h1 : c < 1
  · exact mulDiv_c a b c w h1
  · by_cases h2 : a < 0 ∨ b < 0
    · exact mulDiv_neg a b c w (by omega) h2 ha hb
    · obtain ⟨a', rfl⟩ := Int.eq_ofNat_of_zero_le (show 0 ≤ a by omega)
      obtain ⟨b', rfl⟩ := Int.eq_ofNat_of_zero_le (show 0 ≤ b by omega)
      obtain ⟨c', rfl⟩ := Int.eq_ofNat_of_zero_le (show 0 ≤ c by omega)
      exact mulDiv_nat a' b' c' w (by omega) (by omega) (by omega) (by omega)

/-! ### Percent -/
/-- What Percent answers. -/
def pcF (t s : Int) : Int := if (0 ≤ t ∧ t ≤ 1000000000000000) ∧ (0 ≤ s ∧ s ≤ 1000000) then t * s / 1000000 else 0
theorem pc_small (t s : Int) (h1 : 0 ≤ t ∧ t ≤ 1000000000000000) (h2 : 0 ≤ s ∧ s ≤ 1000000) : t * s / 1000000 ≤ 1000000000000000 ∧ 0 ≤ t * s / 1000000 := by
  have h3 : t * s ≤ t * 1000000 := Int.mul_le_mul_of_nonneg_left h2.2 h1.1
  have h4 : 0 ≤ t * s := Int.mul_nonneg h1.1 h2.1
  generalize t * s = p at *
  omega
theorem allB_one (M x : Int) : allB M [x] = decide (0 ≤ x ∧ x ≤ M) := by unfold allB; simp
set_option maxRecDepth 100000 in
set_option maxHeartbeats 1000000 in
theorem own_percent (t s : Int) (w : World) (ht : t ≤ 9223372036854775807) (hs : s ≤ 9223372036854775807) :
    Calls Try.prog 16 #[.int .i64 t, .int .i64 s] w fun e w' => e = .returned (.int .i64 (pcF t s)) ∧ Below w.heap.size w w' := by
  obtain ⟨R, hR⟩ : ∃ R, pcF t s = R := ⟨_, rfl⟩
  rw [hR]
  have HR := Lib.hid hR
  clear hR
  go_enter Try.func16, Try.ntmps16
  go_wp2_with fail
  refine (upTo_calls 1000000000000000 _).mono ?_
  rintro e w1 ⟨rfl, hw1⟩
  have a1 : Hld w w1 := hw1 ▸ (Hld.refl w).alloc _
  have c1 : w1.cell? ⟨w.heap.size, 0, none⟩ = some (.int .i64 1000000000000000) := hw1 ▸ up_cell w _
  have C1 := Lib.hid c1
  have Z1 := Lib.hid (lt_of_cell c1)
  clear hw1 c1
  go_wp2_with fail
  refine (all_calls 1000000000000000 w.heap.size [t] _ 1 _ ?_ (ints_one w1 _ _).ints (by simp)).mono ?_
  · rw [World.cell?_alloc_lt _ _ _ Z1.out]; exact C1.out
  rintro e w2 ⟨rfl, rfl⟩
  rw [allB_one]
  have a2 := a1.alloc (.cells #[.int .i64 t] 3)
  generalize w1.alloc (.cells #[.int .i64 t] 3) = w2 at *
  clear C1 Z1 a1
  by_cases h1 : 0 ≤ t ∧ t ≤ 1000000000000000
  · rw [decide_eq_true h1]
    have H1 := Lib.hid h1
    clear h1
    go_wp2_with fail
    refine (upTo_calls 1000000 _).mono ?_
    rintro e w3 ⟨rfl, hw3⟩
    have a3 : Hld w w3 := hw3 ▸ a2.alloc _
    have c1 : w3.cell? ⟨w2.heap.size, 0, none⟩ = some (.int .i64 1000000) := hw3 ▸ up_cell w2 _
    have C1 := Lib.hid c1
    have Z1 := Lib.hid (lt_of_cell c1)
    clear hw3 c1
    go_wp2_with fail
    refine (all_calls 1000000 w2.heap.size [s] _ 1 _ ?_ (ints_one w3 _ _).ints (by simp)).mono ?_
    · rw [World.cell?_alloc_lt _ _ _ Z1.out]; exact C1.out
    rintro e w4 ⟨rfl, rfl⟩
    rw [allB_one]
    have a4 := a3.alloc (.cells #[.int .i64 s] 3)
    generalize w3.alloc (.cells #[.int .i64 s] 3) = w4 at *
    clear C1 Z1 a3
    by_cases h2 : 0 ≤ s ∧ s ≤ 1000000
    · rw [decide_eq_true h2]
      have HM : Hid (mdV t s 1000000 = .tuple #[.int .i64 R, .bool true]) := Lib.hid (by
        have h3 := pc_small t s H1.out h2
        unfold mdV
        rw [if_pos ⟨H1.out.1, h2.1, by omega, by omega⟩, ← HR.out]
        unfold pcF
        rw [if_pos ⟨H1.out, h2⟩])
      clear h2
      go_wp2_with fail
      refine (mulDiv_calls t s 1000000 _ ht hs (by omega)).mono ?_
      rintro e w5 ⟨rfl, b5⟩
      have a5 := a4.step b5
      rw [HM.out]
      go_wp2_with fail
      go_ret
      exact ⟨rfl, Hid.out a5⟩
    · rw [decide_eq_false h2]
      have HZ : Hid (R = 0) := Lib.hid (by rw [← HR.out]; unfold pcF; rw [if_neg (fun h => h2 h.2)])
      clear h2
      go_wp2_with fail
      go_ret
      exact ⟨by rw [HZ.out]; rfl, Hid.out a4⟩
  · rw [decide_eq_false h1]
    have HZ : Hid (R = 0) := Lib.hid (by rw [← HR.out]; unfold pcF; rw [if_neg (fun h => h1 h.1)])
    clear h1
    go_wp2_with fail
    go_ret
    exact ⟨by rw [HZ.out]; rfl, Hid.out a2⟩

/-! ### divide -/
set_option maxRecDepth 100000 in
theorem divide_own (t x n : Nat) (w : World) (ht : t ≤ 9223372036854775807) (hn : n ≤ 9223372036854775807) (h1 : 1 ≤ n) (hx : x ≤ n) :
    Calls Try.prog 32 #[.int .i64 (t : Int), .int .i64 (x : Int), .int .i64 (n : Int)] w fun e w' => e = .returned (.tuple #[.int .i64 ((t * x / n : Nat) : Int), .int .u64 ((t * x % n : Nat) : Int)]) ∧ Below w.heap.size w w' := by
  have hmul := fun W' => mul64_calls t x (by omega) (by omega) W'
  have HM := Lib.hid hmul
  clear hmul
  have hm : t * x % 18446744073709551616 < 18446744073709551616 := Nat.mod_lt _ (by decide)
  have hle : t * x / n ≤ t := by
    have := Nat.div_le_div_right (c := n) (Nat.mul_le_mul_left t hx)
    rwa [Nat.mul_div_cancel _ (by omega)] at this
  have hhi : t * x / 18446744073709551616 < n := by
    rw [Nat.div_lt_iff_lt_mul (by decide), Nat.mul_comm n]
    exact Nat.lt_of_le_of_lt (Nat.mul_le_mul_left t hx) (Nat.mul_lt_mul_of_pos_right (by omega) (by omega))
  have hd := div64_calls (t * x / 18446744073709551616) (t * x % 18446744073709551616) n
  unfold divT at hd
  rw [hl_join] at hd
  have HD := Lib.hid hd
  clear hd
  generalize t * x / 18446744073709551616 = hi at *
  generalize t * x % 18446744073709551616 = lo at *
  generalize t * x / n = q at *
  generalize t * x % n = r at *
  have k5 : IntKind.i64.wrap (q : Int) = (q : Int) := IntWalk.i64_in _ (by omega)
  go_enter Try.func32, Try.ntmps32
  go_wp2_with fail
  refine (HM.out _).mono ?_
  rintro e w3 ⟨rfl, rfl⟩
  go_wp2_with fail
  refine (HD.out _ hhi (by omega) hm).mono ?_
  rintro e w3 ⟨rfl, b3⟩
  go_wp2_with fail
  refine bodyPost_ret (results_tmp2 rfl _ _ _) rfl ?_
  exact ⟨rfl, b3⟩

/-! ### Sum -/
theorem sumF_none (M : Nat) (l : List Int) (s : Nat) (h : allB M l = false) : sumF M l s = none := by
  induction l generalizing s with
  | nil => cases h
  | cons x l ih =>
    unfold sumF
    by_cases h2 : 0 ≤ x ∧ s + x.toNat ≤ M
    · rw [if_pos h2]
      refine ih _ ?_
      have h3 : allB M (x :: l) = (decide (0 ≤ x ∧ x ≤ M) && allB M l) := rfl
      rw [h3, decide_eq_true (by omega), Bool.true_and] at h
      exact h
    · rw [if_neg h2]
/-- What Sum answers. -/
def smV (l : List Int) : Value := .tuple #[.int .i64 (((sumF maxI l 0).getD 0 : Nat) : Int), .bool (sumF maxI l 0).isSome]
theorem allB_at (M : Int) (l : List Int) (i : Nat) (h : allB M l = true) (hi : i < l.length) : 0 ≤ l.getD i 0 ∧ l.getD i 0 ≤ M := by
  unfold allB at h
  rw [List.all_eq_true] at h
  have := h (l.getD i 0) (by rw [List.getD_eq_getElem?_getD, List.getElem?_eq_getElem hi]; exact List.getElem_mem hi)
  simpa using this
set_option maxRecDepth 100000 in
set_option maxHeartbeats 1000000 in
theorem own_sum (l : List Int) (A : Option Addr) (cap : Nat) (w : World) (hs : Ints w A l) (hl : l.length ≤ 1000000) :
    Calls Try.prog 25 #[.slice A l.length cap] w fun e w' => e = .returned (smV l) ∧ Below w.heap.size w w' := by
  obtain ⟨V, hV⟩ : ∃ V, smV l = V := ⟨_, rfl⟩
  rw [hV]
  have HV := Lib.hid hV
  clear hV
  have HS := Lib.hid hs
  obtain ⟨n, hn⟩ : ∃ n, l.length = n := ⟨_, rfl⟩
  have Hn := Lib.hid hn
  rw [hn] at hl ⊢
  clear hn hs
  go_enter Try.func25, Try.ntmps25
  go_wp2_with fail
  refine (upTo_calls 4611686018427387903 _).mono ?_
  rintro e w1 ⟨rfl, hw1⟩
  have b1 : Below w.heap.size w w1 := hw1 ▸ (Below.refl _ _).alloc (Nat.le_refl _) _
  have a1 : Hld w w1 := Lib.hid b1
  have H1 := Lib.hid (HS.out.keep b1)
  have C1 : Hid (w1.cell? ⟨w.heap.size, 0, none⟩ = some (.int .i64 4611686018427387903)) := Lib.hid (hw1 ▸ up_cell w _)
  clear hw1 b1 HS
  go_wp2_with fail
  have hall := all_calls 4611686018427387903 w.heap.size l A cap w1 C1.out H1.out (by rw [Hn.out]; exact hl)
  rw [Hn.out] at hall
  refine hall.mono ?_
  clear hall
  rintro e w2 ⟨rfl, rfl⟩
  cases hb : allB 4611686018427387903 l with
  | false =>
    have HZ : Hid (V = .tuple #[.int .i64 0, .bool false]) := Lib.hid (by
      rw [← HV.out]; unfold smV; rw [sumF_none maxI l 0 hb]; rfl)
    clear hb
    go_wp2_with fail
    refine bodyPost_ret (results_tmp2 rfl _ _ _) rfl ?_
    exact ⟨by rw [HZ.out]; rfl, Hid.out a1⟩
  | true =>
    have HA := Lib.hid (fun i hi => allB_at _ l i hb hi)
    have HL : Hid (l = [] ∨ ∃ b o, A = some ⟨b, o, none⟩ ∧ IntsAt w1 b o l) := H1
    have Hd := Lib.hid (sumF_drop maxI l)
    have He : Hid (sumF maxI (l.drop n) = fun s => some s) := Lib.hid (by rw [← Hn.out, List.drop_length]; rfl)
    obtain ⟨R, hR⟩ : ∃ R, sumF maxI l 0 = R := ⟨_, rfl⟩
    have HR : Hid (sumF maxI (l.drop 0) 0 = R) := Lib.hid (by rw [List.drop_zero]; exact hR)
    have HV2 : Hid (V = .tuple #[.int .i64 ((R.getD 0 : Nat) : Int), .bool R.isSome]) := Lib.hid (by rw [← HV.out]; unfold smV; rw [hR])
    clear hR hb HV C1 H1
    go_wp2_with fail
    go_loop [4, 13] (fun sv iv => ∃ i s : Nat, i ≤ n ∧ iv = .int .i64 i ∧ sv = .int .i64 s ∧ s ≤ 4611686018427387903 ∧ Hid (sumF maxI (l.drop i) s = R)) (fun _ iv => n - (intOf iv).toNat)
    case atStart => exact ⟨0, 0, by omega, rfl, rfl, by omega, HR⟩
    case round =>
      obtain ⟨i, s, hi, rfl, rfl, hsM, HS⟩ := hrel
      clear HR
      by_cases hlt : i < n
      · obtain ⟨b, o, rfl, hI⟩ : ∃ b o, A = some ⟨b, o, none⟩ ∧ IntsAt w1 b o l := by
          rcases HL.out with h | h
          · have h0 := Hn.out
            rw [h, List.length_nil] at h0
            omega
          · exact h
        have hc := hI i (by rw [Hn.out]; exact hlt)
        have hx := HA.out i (by rw [Hn.out]; exact hlt)
        have hd := Hd.out i s (by rw [Hn.out]; exact hlt)
        rw [HS.out] at hd
        have k0 : (0 : Int) ≤ (i : Int) := by omega
        have k1 : (i : Int) < (n : Int) := by omega
        clear hI
        generalize l.getD i 0 = x at *
        obtain ⟨y, rfl⟩ := Int.eq_ofNat_of_zero_le hx.1
        rw [Int.toNat_natCast] at hd
        by_cases hbig : s + y ≤ 4611686018427387903
        · rw [if_pos ⟨by omega, hbig⟩] at hd
          have Hd' := Lib.hid hd.symm
          clear hd HS hx
          have q1 : decide ((4611686018427387903 : Int) - (s : Int) < (y : Int)) = false := decide_eq_false (by omega)
          have q2 : (s : Int) + (y : Int) ≤ 4611686018427387903 := by omega
          go_wp2_with fail
          go_round
          case rel => exact ⟨i + 1, s + y, by omega, by go_num, by go_num, by omega, Hd'⟩
          case measure => simp [intOf]; omega
        · rw [if_neg (fun h => hbig h.2)] at hd
          have Hd' := Lib.hid hd
          clear hd HS
          have q1 : (4611686018427387903 : Int) - (s : Int) < (y : Int) := by omega
          clear hx hbig
          go_wp2_with fail
          refine bodyPost_ret (results_tmp2 rfl _ _ _) rfl ?_
          exact ⟨by rw [HV2.out, Hd'.out]; rfl, Hid.out a1⟩
      · obtain rfl : i = n := by omega
        have hd := HS.out
        rw [He.out] at hd
        have Hd' := Lib.hid hd.symm
        clear hd HS
        go_wp2_with fail
        refine bodyPost_ret (results_tmp2 rfl _ _ _) rfl ?_
        exact ⟨by rw [HV2.out, Hd'.out]; rfl, Hid.out a1⟩
end Go.Proofs.Ytediphiebamffaa
