/- The contract of package fact's Prevails. -/
import Derived.Test.YtnbeebndcgoalaaDoorFPrv
import Derived.Test.YtnbeebndcgoalaaDoorFQl
namespace Go.Proofs.YtnbeebndcgoalaaDoor
open Go.RowKit
theorem bl_gtr (x y : List UInt8) : (!Op.bytesLess x y && !x == y) = Op.bytesLess y x := by
  by_cases h : x = y
  · subst h; rw [bl_irr, beq_self_eq_true]; rfl
  · rw [bl_tri x y h, beq_eq_false_iff_ne.2 h]; simp

set_option maxRecDepth 100000 in
set_option maxHeartbeats 4000000 in
theorem prevails_key (u v : Nat → Int) (s t : ByteArray) (w : World) (hk : kyB u v = false) :
    Calls Tryd.prog 19 #[.agg (factC u s), .agg (factC v t)] w fun e W' => e = .returned (.bool false) ∧ Below w.heap.size w W' := by
  have HKu := Lib.hid (fun W => Key_calls u s W)
  have HKv := Lib.hid (fun W => Key_calls v t W)
  have hq := fun W => key_neq u v false hk W
  clear hk
  go_enter Tryd.func19, Tryd.ntmps19
  go_upto_region 1 with (fail)
  obtain ⟨W0, hW0, f0, f1, b0⟩ := two_rows w (factC u s) (factC v t) 23 23
  rw [hW0]
  clear hW0
  have F0 := Lib.hid f0
  have F1 := Lib.hid f1
  have B0 := Lib.hid b0
  clear f0 f1 b0
  refine wp_region_hl W0 (Hl.refl _) (by kernel_rfl) (by kernel_rfl) ?_
  repeat (first
    | go_big_quiet_skip
    | (go_big_quiet_want; refine quiet_load_row _ rfl _ rfl _ _ F0.out ?_; simp only [Act.put, List.setIfInBounds_toArray, List.set_cons_zero, List.set_cons_succ]; go_big_quiet_on)
    | (go_big_quiet_want; refine quiet_load_row _ rfl _ rfl _ _ F1.out ?_; simp only [Act.put, List.setIfInBounds_toArray, List.set_cons_zero, List.set_cons_succ]; go_big_quiet_on)
    | (go_big_quiet_want; go_big_quiet_op; first
      | go_big_quiet_on
      | (apply Exists.intro; (with_reducible refine ⟨fun _ => hl_call (HKu.out _), ?_⟩); go_big_quiet_on)
      | (apply Exists.intro; (with_reducible refine ⟨fun _ => hl_call (HKv.out _), ?_⟩); go_big_quiet_on)))
  refine wpQuiet_nil ?_
  intro W1 h1
  go_wp2_with fail
  go_ret
  exact ⟨rfl, B0.out.trans (Below.mono h1 B0.out.size)⟩

set_option maxRecDepth 100000 in
set_option maxHeartbeats 4000000 in
theorem prevails_first (u v : Nat → Int) (s t : ByteArray) (w : World) (hk : kyB u v = true) (hu : okT u s = false) :
    Calls Tryd.prog 19 #[.agg (factC u s), .agg (factC v t)] w fun e W' => e = .returned (.bool false) ∧ Below w.heap.size w W' := by
  have HKu := Lib.hid (fun W => Key_calls u s W)
  have HKv := Lib.hid (fun W => Key_calls v t W)
  have hq := fun W => key_neq u v true hk W
  have HVu := Lib.hid (fun W => Valid_eq u s false hu W)
  clear hk hu
  go_enter Tryd.func19, Tryd.ntmps19
  go_upto_region 1 with (fail)
  obtain ⟨W0, hW0, f0, f1, b0⟩ := two_rows w (factC u s) (factC v t) 23 23
  rw [hW0]
  clear hW0
  have F0 := Lib.hid f0
  have F1 := Lib.hid f1
  have B0 := Lib.hid b0
  clear f0 f1 b0
  refine wp_region_hl W0 (Hl.refl _) (by kernel_rfl) (by kernel_rfl) ?_
  repeat (first
    | go_big_quiet_skip
    | (go_big_quiet_want; refine quiet_load_row _ rfl _ rfl _ _ F0.out ?_; simp only [Act.put, List.setIfInBounds_toArray, List.set_cons_zero, List.set_cons_succ]; go_big_quiet_on)
    | (go_big_quiet_want; refine quiet_load_row _ rfl _ rfl _ _ F1.out ?_; simp only [Act.put, List.setIfInBounds_toArray, List.set_cons_zero, List.set_cons_succ]; go_big_quiet_on)
    | (go_big_quiet_want; go_big_quiet_op; first
      | go_big_quiet_on
      | (apply Exists.intro; (with_reducible refine ⟨fun _ => hl_call (HKu.out _), ?_⟩); go_big_quiet_on)
      | (apply Exists.intro; (with_reducible refine ⟨fun _ => hl_call (HKv.out _), ?_⟩); go_big_quiet_on)
      | (apply Exists.intro; (with_reducible refine ⟨fun _ => hl_call (HVu.out _), ?_⟩); go_big_quiet_on)))
  refine wpQuiet_nil ?_
  intro W1 h1
  go_wp2_with fail
  go_ret
  exact ⟨rfl, B0.out.trans (Below.mono h1 B0.out.size)⟩

set_option maxRecDepth 100000 in
set_option maxHeartbeats 4000000 in
theorem prevails_second (u v : Nat → Int) (s t : ByteArray) (w : World) (hk : kyB u v = true) (hu : okT u s = true) (hv : okT v t = false) :
    Calls Tryd.prog 19 #[.agg (factC u s), .agg (factC v t)] w fun e W' => e = .returned (.bool false) ∧ Below w.heap.size w W' := by
  have HKu := Lib.hid (fun W => Key_calls u s W)
  have HKv := Lib.hid (fun W => Key_calls v t W)
  have hq := fun W => key_neq u v true hk W
  have HVu := Lib.hid (fun W => Valid_eq u s true hu W)
  have HVv := Lib.hid (fun W => Valid_eq v t false hv W)
  clear hk hu hv
  go_enter Tryd.func19, Tryd.ntmps19
  go_upto_region 1 with (fail)
  obtain ⟨W0, hW0, f0, f1, b0⟩ := two_rows w (factC u s) (factC v t) 23 23
  rw [hW0]
  clear hW0
  have F0 := Lib.hid f0
  have F1 := Lib.hid f1
  have B0 := Lib.hid b0
  clear f0 f1 b0
  refine wp_region_hl W0 (Hl.refl _) (by kernel_rfl) (by kernel_rfl) ?_
  repeat (first
    | go_big_quiet_skip
    | (go_big_quiet_want; refine quiet_load_row _ rfl _ rfl _ _ F0.out ?_; simp only [Act.put, List.setIfInBounds_toArray, List.set_cons_zero, List.set_cons_succ]; go_big_quiet_on)
    | (go_big_quiet_want; refine quiet_load_row _ rfl _ rfl _ _ F1.out ?_; simp only [Act.put, List.setIfInBounds_toArray, List.set_cons_zero, List.set_cons_succ]; go_big_quiet_on)
    | (go_big_quiet_want; go_big_quiet_op; first
      | go_big_quiet_on
      | (apply Exists.intro; (with_reducible refine ⟨fun _ => hl_call (HKu.out _), ?_⟩); go_big_quiet_on)
      | (apply Exists.intro; (with_reducible refine ⟨fun _ => hl_call (HKv.out _), ?_⟩); go_big_quiet_on)
      | (apply Exists.intro; (with_reducible refine ⟨fun _ => hl_call (HVu.out _), ?_⟩); go_big_quiet_on)
      | (apply Exists.intro; (with_reducible refine ⟨fun _ => hl_call (HVv.out _), ?_⟩); go_big_quiet_on)))
  refine wpQuiet_nil ?_
  intro W1 h1
  go_wp2_with fail
  go_ret
  exact ⟨rfl, B0.out.trans (Below.mono h1 B0.out.size)⟩

set_option maxRecDepth 100000 in
set_option maxHeartbeats 4000000 in
theorem prevails_both (u v : Nat → Int) (s t : ByteArray) (w : World) (hk : kyB u v = true) (hu : okT u s = true) (hv : okT v t = true) :
    Calls Tryd.prog 19 #[.agg (factC u s), .agg (factC v t)] w fun e W' => e = .returned (.bool (decide (v 2 < u 2) || (decide (u 2 = v 2) && Op.bytesLess (encV v t.data.toList) (encV u s.data.toList)))) ∧ Below w.heap.size w W' := by
  have HKu := Lib.hid (fun W => Key_calls u s W)
  have HKv := Lib.hid (fun W => Key_calls v t W)
  have hq := fun W => key_neq u v true hk W
  have HVu := Lib.hid (fun W => Valid_eq u s true hu W)
  have HVv := Lib.hid (fun W => Valid_eq v t true hv W)
  have HEu := Lib.hid (fun W => encoding_calls u s W (okT_fits hu))
  have HEv := Lib.hid (fun W => encoding_calls v t W (okT_fits hv))
  clear hk hu hv
  go_enter Tryd.func19, Tryd.ntmps19
  go_upto_region 1 with (fail)
  obtain ⟨W0, hW0, f0, f1, b0⟩ := two_rows w (factC u s) (factC v t) 23 23
  rw [hW0]
  clear hW0
  have F0 := Lib.hid f0
  have F1 := Lib.hid f1
  have B0 := Lib.hid b0
  clear f0 f1 b0
  refine wp_region_hl W0 (Hl.refl _) (by kernel_rfl) (by kernel_rfl) ?_
  repeat (first
    | go_big_quiet_skip
    | (go_big_quiet_want; refine quiet_load_row _ rfl _ rfl _ _ F0.out ?_; simp only [Act.put, List.setIfInBounds_toArray, List.set_cons_zero, List.set_cons_succ]; go_big_quiet_on)
    | (go_big_quiet_want; refine quiet_load_row _ rfl _ rfl _ _ F1.out ?_; simp only [Act.put, List.setIfInBounds_toArray, List.set_cons_zero, List.set_cons_succ]; go_big_quiet_on)
    | (go_big_quiet_want; go_big_quiet_op; first
      | go_big_quiet_on
      | (apply Exists.intro; (with_reducible refine ⟨fun _ => hl_call (HKu.out _), ?_⟩); go_big_quiet_on)
      | (apply Exists.intro; (with_reducible refine ⟨fun _ => hl_call (HKv.out _), ?_⟩); go_big_quiet_on)
      | (apply Exists.intro; (with_reducible refine ⟨fun _ => hl_call (HVu.out _), ?_⟩); go_big_quiet_on)
      | (apply Exists.intro; (with_reducible refine ⟨fun _ => hl_call (HVv.out _), ?_⟩); go_big_quiet_on)))
  refine wpQuiet_nil ?_
  intro W1 h1
  have G0 := Lib.hid (h1.row F0.out)
  have G1 := Lib.hid (h1.row F1.out)
  have B1 := Lib.hid (B0.out.trans (Below.mono h1 B0.out.size))
  clear h1 F0 F1 B0 HKu HKv HVu HVv
  obtain ⟨-, -, du, -⟩ := row18 G0.out
  obtain ⟨-, -, dv, -⟩ := row18 G1.out
  by_cases he : u 2 = v 2
  · have hne : (u 2 != v 2) = false := by rw [he]; simp
    have hlt : decide (v 2 < u 2) = false := by rw [he]; simp
    have heq : decide (u 2 = v 2) = true := decide_eq_true he
    have HR : Hid ((decide (v 2 < u 2) || (decide (u 2 = v 2) && Op.bytesLess (encV v t.data.toList) (encV u s.data.toList))) = Op.bytesLess (encV v t.data.toList) (encV u s.data.toList)) := Lib.hid (by rw [hlt, heq, Bool.false_or, Bool.true_and])
    clear hlt heq he
    go_wp2_with fail
    refine wp_region_hl W1 (Hl.refl _) (by kernel_rfl) (by kernel_rfl) ?_
    repeat (first
      | go_big_quiet_skip
      | (go_big_quiet_want; refine quiet_load_row _ rfl _ rfl _ _ G0.out ?_; simp only [Act.put, List.setIfInBounds_toArray, List.set_cons_zero, List.set_cons_succ]; go_big_quiet_on)
      | (go_big_quiet_want; refine quiet_load_row _ rfl _ rfl _ _ G1.out ?_; simp only [Act.put, List.setIfInBounds_toArray, List.set_cons_zero, List.set_cons_succ]; go_big_quiet_on)
      | (go_big_quiet_want; go_big_quiet_op; first
        | go_big_quiet_on
        | (apply Exists.intro; (with_reducible refine ⟨fun _ => hl_call (HEu.out _), ?_⟩); go_big_quiet_on)
        | (apply Exists.intro; (with_reducible refine ⟨fun _ => hl_call (HEv.out _), ?_⟩); go_big_quiet_on)))
    refine wpQuiet_nil ?_
    intro W2 h2
    go_wp2_with fail
    go_ret
    
    have HG := bl_gtr (encV u s.data.toList) (encV v t.data.toList)
    exact ⟨by rw [HR.out, ← HG]; rfl, B1.out.trans (Below.mono h2 B1.out.size)⟩
  · have hne : (u 2 != v 2) = true := by simpa using he
    have heq : decide (u 2 = v 2) = false := decide_eq_false he
    have HR : Hid ((decide (v 2 < u 2) || (decide (u 2 = v 2) && Op.bytesLess (encV v t.data.toList) (encV u s.data.toList))) = decide (v 2 < u 2)) := Lib.hid (by rw [heq, Bool.false_and, Bool.or_false])
    clear heq he
    go_wp2_with fail
    go_ret
    exact ⟨by rw [HR.out]; rfl, B1.out⟩

theorem Prevails_calls (u v : Nat → Int) (s t : ByteArray) (w : World) : Calls Tryd.prog 19 #[.agg (factC u s), .agg (factC v t)] w fun e W' => e = .returned (.bool (pvB u s v t)) ∧ Below w.heap.size w W' := by
  unfold pvB
  rcases hk : kyB u v with _ | _
  · rw [Bool.false_and, Bool.and_false, Bool.and_false]; exact prevails_key u v s t w hk
  · rcases hu : okT u s with _ | _
    · rw [Bool.false_and]; exact prevails_first u v s t w hk hu
    · rcases hv : okT v t with _ | _
      · rw [Bool.false_and, Bool.and_false]; exact prevails_second u v s t w hk hu hv
      · rw [Bool.true_and, Bool.true_and, Bool.true_and]; exact prevails_both u v s t w hk hu hv
end Go.Proofs.YtnbeebndcgoalaaDoor
