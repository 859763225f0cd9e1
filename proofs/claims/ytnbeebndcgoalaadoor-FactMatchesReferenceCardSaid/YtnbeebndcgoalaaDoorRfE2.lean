/- The reference implementation's Encode, ID and Prevails: they return what the program's do. No further condition. -/
import Derived.Test.YtnbeebndcgoalaaDoorRfV
import Derived.Test.YtnbeebndcgoalaaDoorRfK
import Derived.Test.YtnbeebndcgoalaaDoorRfN
import Derived.Test.YtnbeebndcgoalaaDoorDRefSum
namespace Go.Proofs.YtnbeebndcgoalaaDoor
open Go.RowKit
theorem refValid_eq (v : Nat → Int) (t : ByteArray) (c : Bool) (h : okT v t = c) (w : World) : Calls Tryd.prog 15 #[.agg (factC v t)] w fun e W' => e = .returned (.bool c) ∧ Below w.heap.size w W' := h ▸ refValid_calls v t w

set_option maxRecDepth 100000 in
theorem refEncode_calls (v : Nat → Int) (t : ByteArray) (w : World) : Calls Tryd.prog 22 #[.agg (factC v t)] w fun e W' => e = .returned (.tuple #[.string ⟨(codeF v t).toArray⟩, .int .i64 (errF v t)]) ∧ Below w.heap.size w W' := by
  rcases hc : okT v t with _ | _
  · have HV := Lib.hid (fun W => refValid_eq v t false hc W)
    have e1 : codeF v t = [] := by unfold codeF; rw [hc]; rfl
    have e2 : errF v t = 50 := by unfold errF; rw [hc]; rfl
    rw [e1, e2]
    clear hc e1 e2
    go_enter Tryd.func22, Tryd.ntmps22
    go_upto_region 1 with (fail)
    obtain ⟨W0, hW0, f0, b0⟩ := one_row w (factC v t) 23
    rw [hW0]
    clear hW0
    have F0 := Lib.hid f0
    clear f0
    go_wp2_with (refine wpList_load_row rfl 23 _ rfl w.heap.size rfl _ _ _ _ F0.out Tryd.underlying23 rfl (hiC _ _) ?_)
    refine (HV.out _).mono ?_
    rintro e W1 ⟨rfl, b1⟩
    go_wp2_with fail
    go_ret2
    exact ⟨rfl, b0.trans (b1.mono b0.size)⟩
  · have HV := Lib.hid (fun W => refValid_eq v t true hc W)
    have HE := Lib.hid (fun W => refWritten_calls v t W (okT_fits hc))
    have e1 : codeF v t = encV v t.data.toList := by unfold codeF; rw [hc]; rfl
    have e2 : errF v t = 0 := by unfold errF; rw [hc]; rfl
    rw [e1, e2]
    clear hc e1 e2
    generalize encV v t.data.toList = E at *
    go_enter Tryd.func22, Tryd.ntmps22
    go_upto_region 1 with (fail)
    obtain ⟨W0, hW0, f0, b0⟩ := one_row w (factC v t) 23
    rw [hW0]
    clear hW0
    have F0 := Lib.hid f0
    clear f0
    go_wp2_with (refine wpList_load_row rfl 23 _ rfl w.heap.size rfl _ _ _ _ F0.out Tryd.underlying23 rfl (hiC _ _) ?_)
    refine (HV.out _).mono ?_
    rintro e W1 ⟨rfl, b1⟩
    have F1 := Lib.hid (Hl.row b1 F0.out)
    go_wp2_with (refine wpList_load_row rfl 23 _ rfl w.heap.size rfl _ _ _ _ F1.out Tryd.underlying23 rfl (hiC _ _) ?_)
    refine (HE.out _).mono ?_
    rintro e W2 ⟨rfl, b2⟩
    go_wp2_with fail
    go_ret2
    exact ⟨rfl, (b0.trans (b1.mono b0.size)).trans (b2.mono (by have := b0.size; have := b1.size; omega))⟩
set_option maxRecDepth 100000 in
theorem refID_calls (v : Nat → Int) (t : ByteArray) (w : World) : Calls Tryd.prog 24 #[.agg (factC v t)] w fun e W' => e = .returned (.tuple #[.string ⟨(idF v t).toArray⟩, .int .i64 (errF v t)]) ∧ Below w.heap.size w W' := by
  have HC := Lib.hid (fun W => refEncode_calls v t W)
  have hsz := codeF_size v t
  have HM : Hid (∀ W, Calls Tryd.prog 38 #[.string ⟨(codeF v t).toArray⟩] W fun e W' => e = .returned (.string ⟨(shaF (codeF v t)).toArray⟩) ∧ Below W.heap.size W W') := Lib.hid (fun W => refSum_calls ⟨(codeF v t).toArray⟩ W (by show (codeF v t).length ≤ 1000000; omega))
  rcases hc : okT v t with _ | _
  · have e1 : idF v t = [] := by unfold idF; rw [hc]; rfl
    have e2 : errF v t = 50 := by unfold errF; rw [hc]; rfl
    rw [e1, e2]
    rw [e2] at HC
    clear hc e1 e2 HM hsz
    generalize codeF v t = S at *
    go_enter Tryd.func24, Tryd.ntmps24
    go_upto_region 1 with (fail)
    obtain ⟨W0, hW0, f0, b0⟩ := one_row w (factC v t) 23
    rw [hW0]
    clear hW0
    have F0 := Lib.hid f0
    clear f0
    go_wp2_with (refine wpList_load_fact rfl _ rfl w.heap.size rfl v t F0.out ?_)
    refine (HC.out _).mono ?_
    rintro e W1 ⟨rfl, b1⟩
    go_wp2_with fail
    go_ret2
    exact ⟨rfl, b0.trans (b1.mono b0.size)⟩
  · have e1 : idF v t = shaF (codeF v t) := by unfold idF codeF; rw [hc]; rfl
    have e2 : errF v t = 0 := by unfold errF; rw [hc]; rfl
    rw [e1, e2]
    rw [e2] at HC
    clear hc e1 e2 hsz
    generalize shaF (codeF v t) = D at *
    generalize codeF v t = S at *
    go_enter Tryd.func24, Tryd.ntmps24
    go_upto_region 1 with (fail)
    obtain ⟨W0, hW0, f0, b0⟩ := one_row w (factC v t) 23
    rw [hW0]
    clear hW0
    have F0 := Lib.hid f0
    clear f0
    go_wp2_with (refine wpList_load_fact rfl _ rfl w.heap.size rfl v t F0.out ?_)
    refine (HC.out _).mono ?_
    rintro e W1 ⟨rfl, b1⟩
    go_wp2_with fail
    refine (HM.out _).mono ?_
    rintro e W2 ⟨rfl, b2⟩
    go_wp2_with fail
    go_ret2
    exact ⟨rfl, (b0.trans (b1.mono b0.size)).trans (b2.mono (by have := b0.size; have := b1.size; omega))⟩

set_option maxRecDepth 100000 in
set_option maxHeartbeats 4000000 in
theorem refPv_bad (u v : Nat → Int) (s t : ByteArray) (w : World) (hoku : okT u s = false) : Calls Tryd.prog 20 #[.agg (factC u s), .agg (factC v t)] w fun e W' => e = .returned (.bool false) ∧ Below w.heap.size w W' := by
  have CEu : Hid (∀ W, Calls Tryd.prog 22 #[.agg (factC u s)] W fun e W' => e = .returned (.tuple #[.string ⟨#[]⟩, .int .i64 50]) ∧ Below W.heap.size W W') := Lib.hid (fun W => by
    have h := refEncode_calls u s W
    rw [show codeF u s = [] by unfold codeF; rw [hoku]; rfl, show errF u s = 50 by unfold errF; rw [hoku]; rfl] at h
    exact h)

  have CEv := Lib.hid (fun W => refEncode_calls v t W)
  clear hoku
  generalize codeF v t = T at *
  generalize errF v t = ev at *
  go_enter Tryd.func20, Tryd.ntmps20
  go_upto_region 1 with (fail)
  obtain ⟨W0, hW0, f0, f1, b0⟩ := two_rows w (factC u s) (factC v t) 23 23
  rw [hW0]
  clear hW0
  have F0 := Lib.hid f0
  have G0 := Lib.hid f1
  have B0 := Lib.hid b0
  clear f0 f1 b0
  go_wp2_with (first
      | (refine wpList_load_fact rfl _ rfl w.heap.size rfl u s F0.out ?_)
      | (refine wpList_load_fact rfl _ rfl (w.heap.size + 1) rfl v t G0.out ?_))
  refine (CEu.out _).mono ?_
  rintro e W1 ⟨rfl, b1⟩
  have F1 := Lib.hid (Hl.row b1 F0.out)
  have G1 := Lib.hid (Hl.row b1 G0.out)
  have B1 := Lib.hid (B0.out.trans (Below.mono b1 B0.out.size))
  clear F0 G0 B0
  clear b1
  go_wp2_with (first
      | (refine wpList_load_fact rfl _ rfl w.heap.size rfl u s F1.out ?_)
      | (refine wpList_load_fact rfl _ rfl (w.heap.size + 1) rfl v t G1.out ?_))
  refine (CEv.out _).mono ?_
  rintro e W2 ⟨rfl, b2⟩
  have F2 := Lib.hid (Hl.row b2 F1.out)
  have G2 := Lib.hid (Hl.row b2 G1.out)
  have B2 := Lib.hid (B1.out.trans (Below.mono b2 B1.out.size))
  clear F1 G1 B1
  clear b2
  go_wp2_with (first
      | (refine wpList_load_fact rfl _ rfl w.heap.size rfl u s F2.out ?_)
      | (refine wpList_load_fact rfl _ rfl (w.heap.size + 1) rfl v t G2.out ?_))
  refine wp_region_hl W2 (Hl.refl _) (by kernel_rfl) (by kernel_rfl) ?_
  repeat (first
    | go_big_quiet_skip
    | (go_big_quiet_want; refine quiet_load_row _ rfl _ rfl _ _ F2.out ?_; simp only [Act.put, List.setIfInBounds_toArray, List.set_cons_zero, List.set_cons_succ]; go_big_quiet_on)
    | (go_big_quiet_want; refine quiet_load_row _ rfl _ rfl _ _ G2.out ?_; simp only [Act.put, List.setIfInBounds_toArray, List.set_cons_zero, List.set_cons_succ]; go_big_quiet_on)
    | (go_big_quiet_want; go_big_quiet_op; first
      | go_big_quiet_on
      ))
  refine wpQuiet_nil ?_
  intro W3 h3
  have F3 := Lib.hid (Hl.row h3 F2.out)
  have G3 := Lib.hid (Hl.row h3 G2.out)
  have B3 := Lib.hid (B2.out.trans (Below.mono h3 B2.out.size))
  clear F2 G2 B2
  clear h3
  go_wp2_with fail
  go_ret
  exact ⟨rfl, B3.out⟩
set_option maxRecDepth 100000 in
set_option maxHeartbeats 4000000 in
theorem refPv_half (u v : Nat → Int) (s t : ByteArray) (w : World) (hoku : okT u s = true) (hokv : okT v t = false) : Calls Tryd.prog 20 #[.agg (factC u s), .agg (factC v t)] w fun e W' => e = .returned (.bool false) ∧ Below w.heap.size w W' := by
  have CEu : Hid (∀ W, Calls Tryd.prog 22 #[.agg (factC u s)] W fun e W' => e = .returned (.tuple #[.string ⟨(encV u s.data.toList).toArray⟩, .int .i64 0]) ∧ Below W.heap.size W W') := Lib.hid (fun W => by
    have h := refEncode_calls u s W
    rw [show codeF u s = encV u s.data.toList by unfold codeF; rw [hoku]; rfl, show errF u s = 0 by unfold errF; rw [hoku]; rfl] at h
    exact h)

  have CEv : Hid (∀ W, Calls Tryd.prog 22 #[.agg (factC v t)] W fun e W' => e = .returned (.tuple #[.string ⟨#[]⟩, .int .i64 50]) ∧ Below W.heap.size W W') := Lib.hid (fun W => by
    have h := refEncode_calls v t W
    rw [show codeF v t = [] by unfold codeF; rw [hokv]; rfl, show errF v t = 50 by unfold errF; rw [hokv]; rfl] at h
    exact h)

  clear hoku hokv
  go_enter Tryd.func20, Tryd.ntmps20
  go_upto_region 1 with (fail)
  obtain ⟨W0, hW0, f0, f1, b0⟩ := two_rows w (factC u s) (factC v t) 23 23
  rw [hW0]
  clear hW0
  have F0 := Lib.hid f0
  have G0 := Lib.hid f1
  have B0 := Lib.hid b0
  clear f0 f1 b0
  go_wp2_with (first
      | (refine wpList_load_fact rfl _ rfl w.heap.size rfl u s F0.out ?_)
      | (refine wpList_load_fact rfl _ rfl (w.heap.size + 1) rfl v t G0.out ?_))
  refine (CEu.out _).mono ?_
  rintro e W1 ⟨rfl, b1⟩
  have F1 := Lib.hid (Hl.row b1 F0.out)
  have G1 := Lib.hid (Hl.row b1 G0.out)
  have B1 := Lib.hid (B0.out.trans (Below.mono b1 B0.out.size))
  clear F0 G0 B0
  clear b1
  go_wp2_with (first
      | (refine wpList_load_fact rfl _ rfl w.heap.size rfl u s F1.out ?_)
      | (refine wpList_load_fact rfl _ rfl (w.heap.size + 1) rfl v t G1.out ?_))
  refine (CEv.out _).mono ?_
  rintro e W2 ⟨rfl, b2⟩
  have F2 := Lib.hid (Hl.row b2 F1.out)
  have G2 := Lib.hid (Hl.row b2 G1.out)
  have B2 := Lib.hid (B1.out.trans (Below.mono b2 B1.out.size))
  clear F1 G1 B1
  clear b2
  go_wp2_with (first
      | (refine wpList_load_fact rfl _ rfl w.heap.size rfl u s F2.out ?_)
      | (refine wpList_load_fact rfl _ rfl (w.heap.size + 1) rfl v t G2.out ?_))
  refine wp_region_hl W2 (Hl.refl _) (by kernel_rfl) (by kernel_rfl) ?_
  repeat (first
    | go_big_quiet_skip
    | (go_big_quiet_want; refine quiet_load_row _ rfl _ rfl _ _ F2.out ?_; simp only [Act.put, List.setIfInBounds_toArray, List.set_cons_zero, List.set_cons_succ]; go_big_quiet_on)
    | (go_big_quiet_want; refine quiet_load_row _ rfl _ rfl _ _ G2.out ?_; simp only [Act.put, List.setIfInBounds_toArray, List.set_cons_zero, List.set_cons_succ]; go_big_quiet_on)
    | (go_big_quiet_want; go_big_quiet_op; first
      | go_big_quiet_on
      ))
  refine wpQuiet_nil ?_
  intro W3 h3
  have F3 := Lib.hid (Hl.row h3 F2.out)
  have G3 := Lib.hid (Hl.row h3 G2.out)
  have B3 := Lib.hid (B2.out.trans (Below.mono h3 B2.out.size))
  clear F2 G2 B2
  clear h3
  go_wp2_with fail
  go_ret
  exact ⟨rfl, B3.out⟩
set_option maxRecDepth 100000 in
set_option maxHeartbeats 4000000 in
theorem refPv_key (u v : Nat → Int) (s t : ByteArray) (w : World) (hoku : okT u s = true) (hokv : okT v t = true) (hk : kyB u v = false) : Calls Tryd.prog 20 #[.agg (factC u s), .agg (factC v t)] w fun e W' => e = .returned (.bool false) ∧ Below w.heap.size w W' := by
  have CEu : Hid (∀ W, Calls Tryd.prog 22 #[.agg (factC u s)] W fun e W' => e = .returned (.tuple #[.string ⟨(encV u s.data.toList).toArray⟩, .int .i64 0]) ∧ Below W.heap.size W W') := Lib.hid (fun W => by
    have h := refEncode_calls u s W
    rw [show codeF u s = encV u s.data.toList by unfold codeF; rw [hoku]; rfl, show errF u s = 0 by unfold errF; rw [hoku]; rfl] at h
    exact h)

  have CEv : Hid (∀ W, Calls Tryd.prog 22 #[.agg (factC v t)] W fun e W' => e = .returned (.tuple #[.string ⟨(encV v t.data.toList).toArray⟩, .int .i64 0]) ∧ Below W.heap.size W W') := Lib.hid (fun W => by
    have h := refEncode_calls v t W
    rw [show codeF v t = encV v t.data.toList by unfold codeF; rw [hokv]; rfl, show errF v t = 0 by unfold errF; rw [hokv]; rfl] at h
    exact h)

  have HKu := Lib.hid (fun W => refKey_calls u s W)
  have HKv := Lib.hid (fun W => refKey_calls v t W)
  have hq := fun W => key_neq u v false hk W
  clear hk hoku hokv
  go_enter Tryd.func20, Tryd.ntmps20
  go_upto_region 1 with (fail)
  obtain ⟨W0, hW0, f0, f1, b0⟩ := two_rows w (factC u s) (factC v t) 23 23
  rw [hW0]
  clear hW0
  have F0 := Lib.hid f0
  have G0 := Lib.hid f1
  have B0 := Lib.hid b0
  clear f0 f1 b0
  go_wp2_with (first
      | (refine wpList_load_fact rfl _ rfl w.heap.size rfl u s F0.out ?_)
      | (refine wpList_load_fact rfl _ rfl (w.heap.size + 1) rfl v t G0.out ?_))
  refine (CEu.out _).mono ?_
  rintro e W1 ⟨rfl, b1⟩
  have F1 := Lib.hid (Hl.row b1 F0.out)
  have G1 := Lib.hid (Hl.row b1 G0.out)
  have B1 := Lib.hid (B0.out.trans (Below.mono b1 B0.out.size))
  clear F0 G0 B0
  clear b1
  go_wp2_with (first
      | (refine wpList_load_fact rfl _ rfl w.heap.size rfl u s F1.out ?_)
      | (refine wpList_load_fact rfl _ rfl (w.heap.size + 1) rfl v t G1.out ?_))
  refine (CEv.out _).mono ?_
  rintro e W2 ⟨rfl, b2⟩
  have F2 := Lib.hid (Hl.row b2 F1.out)
  have G2 := Lib.hid (Hl.row b2 G1.out)
  have B2 := Lib.hid (B1.out.trans (Below.mono b2 B1.out.size))
  clear F1 G1 B1
  clear b2
  go_wp2_with (first
      | (refine wpList_load_fact rfl _ rfl w.heap.size rfl u s F2.out ?_)
      | (refine wpList_load_fact rfl _ rfl (w.heap.size + 1) rfl v t G2.out ?_))
  refine wp_region_hl W2 (Hl.refl _) (by kernel_rfl) (by kernel_rfl) ?_
  repeat (first
    | go_big_quiet_skip
    | (go_big_quiet_want; refine quiet_load_row _ rfl _ rfl _ _ F2.out ?_; simp only [Act.put, List.setIfInBounds_toArray, List.set_cons_zero, List.set_cons_succ]; go_big_quiet_on)
    | (go_big_quiet_want; refine quiet_load_row _ rfl _ rfl _ _ G2.out ?_; simp only [Act.put, List.setIfInBounds_toArray, List.set_cons_zero, List.set_cons_succ]; go_big_quiet_on)
    | (go_big_quiet_want; go_big_quiet_op; first
      | go_big_quiet_on
      | (apply Exists.intro; (with_reducible refine ⟨fun _ => hl_call (HKu.out _), ?_⟩); go_big_quiet_on)
      | (apply Exists.intro; (with_reducible refine ⟨fun _ => hl_call (HKv.out _), ?_⟩); go_big_quiet_on)
      ))
  refine wpQuiet_nil ?_
  intro W3 h3
  have F3 := Lib.hid (Hl.row h3 F2.out)
  have G3 := Lib.hid (Hl.row h3 G2.out)
  have B3 := Lib.hid (B2.out.trans (Below.mono h3 B2.out.size))
  clear F2 G2 B2
  clear h3
  go_wp2_with fail
  go_ret
  exact ⟨rfl, B3.out⟩
set_option maxRecDepth 100000 in
set_option maxHeartbeats 4000000 in
theorem refPv_both (u v : Nat → Int) (s t : ByteArray) (w : World) (hoku : okT u s = true) (hokv : okT v t = true) (hk : kyB u v = true) : Calls Tryd.prog 20 #[.agg (factC u s), .agg (factC v t)] w fun e W' => e = .returned (.bool (decide (v 2 < u 2) || (decide (u 2 = v 2) && Op.bytesLess (encV v t.data.toList) (encV u s.data.toList)))) ∧ Below w.heap.size w W' := by
  have CEu : Hid (∀ W, Calls Tryd.prog 22 #[.agg (factC u s)] W fun e W' => e = .returned (.tuple #[.string ⟨(encV u s.data.toList).toArray⟩, .int .i64 0]) ∧ Below W.heap.size W W') := Lib.hid (fun W => by
    have h := refEncode_calls u s W
    rw [show codeF u s = encV u s.data.toList by unfold codeF; rw [hoku]; rfl, show errF u s = 0 by unfold errF; rw [hoku]; rfl] at h
    exact h)

  have CEv : Hid (∀ W, Calls Tryd.prog 22 #[.agg (factC v t)] W fun e W' => e = .returned (.tuple #[.string ⟨(encV v t.data.toList).toArray⟩, .int .i64 0]) ∧ Below W.heap.size W W') := Lib.hid (fun W => by
    have h := refEncode_calls v t W
    rw [show codeF v t = encV v t.data.toList by unfold codeF; rw [hokv]; rfl, show errF v t = 0 by unfold errF; rw [hokv]; rfl] at h
    exact h)

  have HKu := Lib.hid (fun W => refKey_calls u s W)
  have HKv := Lib.hid (fun W => refKey_calls v t W)
  have hq := fun W => key_neq u v true hk W
  clear hk hoku hokv
  go_enter Tryd.func20, Tryd.ntmps20
  go_upto_region 1 with (fail)
  obtain ⟨W0, hW0, f0, f1, b0⟩ := two_rows w (factC u s) (factC v t) 23 23
  rw [hW0]
  clear hW0
  have F0 := Lib.hid f0
  have G0 := Lib.hid f1
  have B0 := Lib.hid b0
  clear f0 f1 b0
  go_wp2_with (first
      | (refine wpList_load_fact rfl _ rfl w.heap.size rfl u s F0.out ?_)
      | (refine wpList_load_fact rfl _ rfl (w.heap.size + 1) rfl v t G0.out ?_))
  refine (CEu.out _).mono ?_
  rintro e W1 ⟨rfl, b1⟩
  have F1 := Lib.hid (Hl.row b1 F0.out)
  have G1 := Lib.hid (Hl.row b1 G0.out)
  have B1 := Lib.hid (B0.out.trans (Below.mono b1 B0.out.size))
  clear F0 G0 B0
  clear b1
  go_wp2_with (first
      | (refine wpList_load_fact rfl _ rfl w.heap.size rfl u s F1.out ?_)
      | (refine wpList_load_fact rfl _ rfl (w.heap.size + 1) rfl v t G1.out ?_))
  refine (CEv.out _).mono ?_
  rintro e W2 ⟨rfl, b2⟩
  have F2 := Lib.hid (Hl.row b2 F1.out)
  have G2 := Lib.hid (Hl.row b2 G1.out)
  have B2 := Lib.hid (B1.out.trans (Below.mono b2 B1.out.size))
  clear F1 G1 B1
  clear b2
  go_wp2_with (first
      | (refine wpList_load_fact rfl _ rfl w.heap.size rfl u s F2.out ?_)
      | (refine wpList_load_fact rfl _ rfl (w.heap.size + 1) rfl v t G2.out ?_))
  refine wp_region_hl W2 (Hl.refl _) (by kernel_rfl) (by kernel_rfl) ?_
  repeat (first
    | go_big_quiet_skip
    | (go_big_quiet_want; refine quiet_load_row _ rfl _ rfl _ _ F2.out ?_; simp only [Act.put, List.setIfInBounds_toArray, List.set_cons_zero, List.set_cons_succ]; go_big_quiet_on)
    | (go_big_quiet_want; refine quiet_load_row _ rfl _ rfl _ _ G2.out ?_; simp only [Act.put, List.setIfInBounds_toArray, List.set_cons_zero, List.set_cons_succ]; go_big_quiet_on)
    | (go_big_quiet_want; go_big_quiet_op; first
      | go_big_quiet_on
      | (apply Exists.intro; (with_reducible refine ⟨fun _ => hl_call (HKu.out _), ?_⟩); go_big_quiet_on)
      | (apply Exists.intro; (with_reducible refine ⟨fun _ => hl_call (HKv.out _), ?_⟩); go_big_quiet_on)
      ))
  refine wpQuiet_nil ?_
  intro W3 h3
  have F3 := Lib.hid (Hl.row h3 F2.out)
  have G3 := Lib.hid (Hl.row h3 G2.out)
  have B3 := Lib.hid (B2.out.trans (Below.mono h3 B2.out.size))
  clear F2 G2 B2
  clear h3
  obtain ⟨-, -, du, -⟩ := row18 F3.out
  obtain ⟨-, -, dv, -⟩ := row18 G3.out
  have HG := Lib.hid (bl_gtr (encV u s.data.toList) (encV v t.data.toList))
  rcases Int.lt_trichotomy (v 2) (u 2) with he | he | he
  · have h1 : decide (v 2 < u 2) = true := decide_eq_true he
    have HR : Hid ((decide (v 2 < u 2) || (decide (u 2 = v 2) && Op.bytesLess (encV v t.data.toList) (encV u s.data.toList))) = true) := Lib.hid (by rw [h1]; rfl)
    go_wp2_with fail
    go_ret
    exact ⟨by rw [HR.out]; rfl, B3.out⟩
  · have h1 : decide (v 2 < u 2) = false := decide_eq_false (by omega)
    have h2 : decide (u 2 = v 2) = true := decide_eq_true he.symm
    have h3 : (u 2 == v 2) = true := by simp [he]
    have HR : Hid ((decide (v 2 < u 2) || (decide (u 2 = v 2) && Op.bytesLess (encV v t.data.toList) (encV u s.data.toList))) = Op.bytesLess (encV v t.data.toList) (encV u s.data.toList)) := Lib.hid (by rw [h1, h2, Bool.false_or, Bool.true_and])
    clear h2 he
    go_wp2_with fail
    go_ret
    exact ⟨by rw [HR.out, ← HG.out]; rfl, B3.out⟩
  · have h1 : decide (v 2 < u 2) = false := decide_eq_false (by omega)
    have h2 : decide (u 2 = v 2) = false := decide_eq_false (by omega)
    have h3 : (u 2 == v 2) = false := by simp; omega
    have HR : Hid ((decide (v 2 < u 2) || (decide (u 2 = v 2) && Op.bytesLess (encV v t.data.toList) (encV u s.data.toList))) = false) := Lib.hid (by rw [h1, h2]; rfl)
    clear h2
    go_wp2_with fail
    go_ret
    exact ⟨by rw [HR.out]; rfl, B3.out⟩
theorem refPrevails_calls (u v : Nat → Int) (s t : ByteArray) (w : World) : Calls Tryd.prog 20 #[.agg (factC u s), .agg (factC v t)] w fun e W' => e = .returned (.bool (pvB u s v t)) ∧ Below w.heap.size w W' := by
  unfold pvB
  rcases hu : okT u s with _ | _
  · exact refPv_bad u v s t w hu
  · rcases hv : okT v t with _ | _
    · exact refPv_half u v s t w hu hv
    · rcases hk : kyB u v with _ | _
      · exact refPv_key u v s t w hu hv hk
      · exact refPv_both u v s t w hu hv hk
end Go.Proofs.YtnbeebndcgoalaaDoor
