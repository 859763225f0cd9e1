/- The contracts of package fact's Encode, ID and Prevails. Condition of ID's: the table of constants reads as the program lays it. | A fact loaded whole in a region that draws its order. | The contract of package fact's Prevails. -/
import Derived.Test.YtngkfopdlkddnaaK11
import Derived.Test.YtngkfopdlkddnaaK13
import Derived.ChangeKeysEq
import Derived.Test.YtngkfopdlkddnaaK04
namespace Go.Proofs.Ytngkfopdlkddnaa
open Go.RowKit
/-- What Encode returns. -/
def codeF (v : Nat → Int) (t : ByteArray) : List UInt8 := if okT v t = true then encV v t.data.toList else []
def errF (v : Nat → Int) (t : ByteArray) : Int := if okT v t = true then 0 else 50
/-- What ID returns. -/
def idF (v : Nat → Int) (t : ByteArray) : List UInt8 := if okT v t = true then shaF (encV v t.data.toList) else []
theorem okT_fits {v : Nat → Int} {t : ByteArray} (h : okT v t = true) : FitsF v t.data.toList := okF_fits v t.size t.data.toList rfl (of_decide_eq_true h)
theorem okT_size {v : Nat → Int} {t : ByteArray} (h : okT v t = true) : t.size ≤ 65536 := (okT_fits h).2
theorem codeF_size (v : Nat → Int) (t : ByteArray) : (codeF v t).length ≤ 65700 := by
  unfold codeF
  split
  · rename_i h
    have h1 := (encV_length v t.data.toList).2
    have h2 : t.data.toList.length ≤ 65536 := okT_size h
    omega
  · simp
/-- Whether a fact prevails over another one. -/
def pvB (u : Nat → Int) (s : ByteArray) (v : Nat → Int) (t : ByteArray) : Bool :=
  okT u s && (okT v t && (kyB u v && (decide (v 2 < u 2) || (decide (u 2 = v 2) && Op.bytesLess (encV v t.data.toList) (encV u s.data.toList)))))
theorem Valid_eq (v : Nat → Int) (t : ByteArray) (c : Bool) (h : okT v t = c) (w : World) : Calls Try.prog 14 #[.agg (factC v t)] w fun e W' => e = .returned (.bool c) ∧ Below w.heap.size w W' := h ▸ Valid_calls v t w

theorem part3x (a b c : Int) (i : Nat) (h : i < 3) (w : World) : (part 3 #[.int .i64 a, .int .i64 b, .int .i64 c] i).run Try.prog w = .ok (.int .i64 (if i = 0 then a else if i = 1 then b else c)) w := by
  have hc : i = 0 ∨ i = 1 ∨ i = 2 := by omega
  rcases hc with rfl | rfl | rfl <;> exact part_int _ _ _ w rfl
theorem run_key (a b c d e f : Int) (W : World) : (Op.equalIn 10000 41 (.agg #[.int .i64 a, .int .i64 b, .int .i64 c]) (.agg #[.int .i64 d, .int .i64 e, .int .i64 f])).run Try.prog W = .ok (decide (a = d ∧ b = e ∧ c = f)) W := by
  obtain ⟨i, hi, hs⟩ : ∃ i, Try.prog.info? 3 = some i ∧ Try.prog.cellsOf 3 = 1 := by
    have h : (Try.prog.info? 3).isSome = true := by kernel_rfl
    obtain ⟨i, hi⟩ := Option.isSome_iff_exists.1 h
    exact ⟨i, hi, by kernel_rfl⟩
  rw [Go.run_equalIn_array W 9999 _ _ Try.underlying41 hi, hs]
  rw [show Op.eqItems 9999 3 1 #[.int .i64 a, .int .i64 b, .int .i64 c] #[.int .i64 d, .int .i64 e, .int .i64 f] (List.range 3) = eqPl 9999 #[.int .i64 a, .int .i64 b, .int .i64 c] #[.int .i64 d, .int .i64 e, .int .i64 f] [(true, 3, 0), (true, 3, 1), (true, 3, 2)] from rfl]
  rw [eqPl_int _ _ 0 a d W _ rfl rfl]
  by_cases h1 : a = d
  · rw [if_pos h1, eqPl_int _ _ 1 b e W _ rfl rfl]
    by_cases h2 : b = e
    · rw [if_pos h2, eqPl_int _ _ 2 c f W _ rfl rfl]
      by_cases h3 : c = f
      · rw [if_pos h3, decide_eq_true ⟨h1, h2, h3⟩]; rfl
      · rw [if_neg h3, decide_eq_false (fun h => h3 h.2.2)]
    · rw [if_neg h2, decide_eq_false (fun h => h2 h.2.1)]
  · rw [if_neg h1, decide_eq_false (fun h => h1 h.1)]
theorem kyB_dec (u v : Nat → Int) : decide (u 0 = v 0 ∧ (kyF u).1 = (kyF v).1 ∧ (kyF u).2 = (kyF v).2) = kyB u v := by
  unfold kyB
  apply decide_eq_decide.2
  rw [Prod.ext_iff]
theorem key_neq (u v : Nat → Int) (c : Bool) (h : kyB u v = c) (W : World) : (binOp .neq 41 (keyV u) (keyV v)).run Try.prog W = .ok (.bool (!c)) W := by
  rw [run_neq_struct, run_key, kyB_dec, h]; rfl
theorem key_eql (u v : Nat → Int) (c : Bool) (h : kyB u v = c) (W : World) : (binOp .eql 41 (keyV u) (keyV v)).run Try.prog W = .ok (.bool c) W := by
  rw [run_eql_struct, run_key, kyB_dec, h]; rfl

end Go.Proofs.Ytngkfopdlkddnaa
namespace Go.Proofs.Ytngkfopdlkddnaa
open Go.RowKit
theorem quiet_load_row {o : Oper} {a : Act} {K : Act → Prop} {w0 : World} (x : Operand) (ho : o.op = .load 29 x) (g : Nat) (hx : a.eval x = .pointer (some ⟨g, 0, none⟩)) (v : Nat → Int) (t : ByteArray)
    (hg : w0.heap[g]? = some (.cells (factC v t) 29 (0, 0))) (h : K (a.put o.dst (.agg (factC v t)))) : o.quiet Try.prog a (fun w' => ∃ x : Wl w0, w' = x.1) K := by
  refine ⟨.agg (factC v t), ?_, h⟩
  rintro w ⟨y, rfl⟩
  have hl := run_loadVar_row y.1 g 29 29 (factC v t) (0, 0) _ (y.2.row hg) Try.underlying29 rfl (hiC v t)
  generalize factC v t = c at *
  unfold Oper.quietAt execOp
  simp only [ho, hx, Instr.loadAt, Instr.sureAddr, Sem.run_bind, Sem.run_pure, Result.andThen_ok, hl]
  exact ⟨rfl, rfl⟩
end Go.Proofs.Ytngkfopdlkddnaa
namespace Go.Proofs.Ytngkfopdlkddnaa
open Go.RowKit
theorem bl_gtr (x y : List UInt8) : (!Op.bytesLess x y && !x == y) = Op.bytesLess y x := by
  by_cases h : x = y
  · subst h; rw [bl_irr, beq_self_eq_true]; rfl
  · rw [bl_tri x y h, beq_eq_false_iff_ne.2 h]; simp

set_option maxRecDepth 100000 in
set_option maxHeartbeats 4000000 in
theorem prevails_key (u v : Nat → Int) (s t : ByteArray) (w : World) (hk : kyB u v = false) :
    Calls Try.prog 17 #[.agg (factC u s), .agg (factC v t)] w fun e W' => e = .returned (.bool false) ∧ Below w.heap.size w W' := by
  have HKu := Lib.hid (fun W => Key_calls u s W)
  have HKv := Lib.hid (fun W => Key_calls v t W)
  have hq := fun W => key_neq u v false hk W
  clear hk
  go_enter Try.func17, Try.ntmps17
  go_upto_region 1 with (fail)
  obtain ⟨W0, hW0, f0, f1, b0⟩ := two_rows w (factC u s) (factC v t) 29 29
  rw [hW0]
  clear hW0
  have F0 := Lib.hid f0
  have F1 := Lib.hid f1
  have B0 := Lib.hid b0
  clear f0 f1 b0
  refine wp_region_hl W0 (Hl.refl _) (by kernel_rfl) (by kernel_rfl) ?_
  repeat (first
    | go_big_quiet_skip
    | (go_big_quiet_want; refine quiet_load_row _ rfl _ rfl _ _ F0.out ?_; simp only [Act.put, List.setIfInBounds_toArray, List.set_cons_zero, List.set_cons_succ]; go_big_quiet_on)
    | (go_big_quiet_want; refine quiet_load_row _ rfl _ rfl _ _ F1.out ?_; simp only [Act.put, List.setIfInBounds_toArray, List.set_cons_zero, List.set_cons_succ]; go_big_quiet_on)
    | (go_big_quiet_want; go_big_quiet_op; first
      | go_big_quiet_on
      | (apply Exists.intro; (with_reducible refine ⟨fun _ => hl_call (HKu.out _), ?_⟩); go_big_quiet_on)
      | (apply Exists.intro; (with_reducible refine ⟨fun _ => hl_call (HKv.out _), ?_⟩); go_big_quiet_on)))
  refine wpQuiet_nil ?_
  intro W1 h1
  go_wp2_with fail
  go_ret
  exact ⟨rfl, B0.out.trans (Below.mono h1 B0.out.size)⟩

set_option maxRecDepth 100000 in
set_option maxHeartbeats 4000000 in
theorem prevails_first (u v : Nat → Int) (s t : ByteArray) (w : World) (hk : kyB u v = true) (hu : okT u s = false) :
    Calls Try.prog 17 #[.agg (factC u s), .agg (factC v t)] w fun e W' => e = .returned (.bool false) ∧ Below w.heap.size w W' := by
  have HKu := Lib.hid (fun W => Key_calls u s W)
  have HKv := Lib.hid (fun W => Key_calls v t W)
  have hq := fun W => key_neq u v true hk W
  have HVu := Lib.hid (fun W => Valid_eq u s false hu W)
  clear hk hu
  go_enter Try.func17, Try.ntmps17
  go_upto_region 1 with (fail)
  obtain ⟨W0, hW0, f0, f1, b0⟩ := two_rows w (factC u s) (factC v t) 29 29
  rw [hW0]
  clear hW0
  have F0 := Lib.hid f0
  have F1 := Lib.hid f1
  have B0 := Lib.hid b0
  clear f0 f1 b0
  refine wp_region_hl W0 (Hl.refl _) (by kernel_rfl) (by kernel_rfl) ?_
  repeat (first
    | go_big_quiet_skip
    | (go_big_quiet_want; refine quiet_load_row _ rfl _ rfl _ _ F0.out ?_; simp only [Act.put, List.setIfInBounds_toArray, List.set_cons_zero, List.set_cons_succ]; go_big_quiet_on)
    | (go_big_quiet_want; refine quiet_load_row _ rfl _ rfl _ _ F1.out ?_; simp only [Act.put, List.setIfInBounds_toArray, List.set_cons_zero, List.set_cons_succ]; go_big_quiet_on)
    | (go_big_quiet_want; go_big_quiet_op; first
      | go_big_quiet_on
      | (apply Exists.intro; (with_reducible refine ⟨fun _ => hl_call (HKu.out _), ?_⟩); go_big_quiet_on)
      | (apply Exists.intro; (with_reducible refine ⟨fun _ => hl_call (HKv.out _), ?_⟩); go_big_quiet_on)
      | (apply Exists.intro; (with_reducible refine ⟨fun _ => hl_call (HVu.out _), ?_⟩); go_big_quiet_on)))
  refine wpQuiet_nil ?_
  intro W1 h1
  go_wp2_with fail
  go_ret
  exact ⟨rfl, B0.out.trans (Below.mono h1 B0.out.size)⟩

set_option maxRecDepth 100000 in
set_option maxHeartbeats 4000000 in
theorem prevails_second (u v : Nat → Int) (s t : ByteArray) (w : World) (hk : kyB u v = true) (hu : okT u s = true) (hv : okT v t = false) :
    Calls Try.prog 17 #[.agg (factC u s), .agg (factC v t)] w fun e W' => e = .returned (.bool false) ∧ Below w.heap.size w W' := by
  have HKu := Lib.hid (fun W => Key_calls u s W)
  have HKv := Lib.hid (fun W => Key_calls v t W)
  have hq := fun W => key_neq u v true hk W
  have HVu := Lib.hid (fun W => Valid_eq u s true hu W)
  have HVv := Lib.hid (fun W => Valid_eq v t false hv W)
  clear hk hu hv
  go_enter Try.func17, Try.ntmps17
  go_upto_region 1 with (fail)
  obtain ⟨W0, hW0, f0, f1, b0⟩ := two_rows w (factC u s) (factC v t) 29 29
  rw [hW0]
  clear hW0
  have F0 := Lib.hid f0
  have F1 := Lib.hid f1
  have B0 := Lib.hid b0
  clear f0 f1 b0
  refine wp_region_hl W0 (Hl.refl _) (by kernel_rfl) (by kernel_rfl) ?_
  repeat (first
    | go_big_quiet_skip
    | (go_big_quiet_want; refine quiet_load_row _ rfl _ rfl _ _ F0.out ?_; simp only [Act.put, List.setIfInBounds_toArray, List.set_cons_zero, List.set_cons_succ]; go_big_quiet_on)
    | (go_big_quiet_want; refine quiet_load_row _ rfl _ rfl _ _ F1.out ?_; simp only [Act.put, List.setIfInBounds_toArray, List.set_cons_zero, List.set_cons_succ]; go_big_quiet_on)
    | (go_big_quiet_want; go_big_quiet_op; first
      | go_big_quiet_on
      | (apply Exists.intro; (with_reducible refine ⟨fun _ => hl_call (HKu.out _), ?_⟩); go_big_quiet_on)
      | (apply Exists.intro; (with_reducible refine ⟨fun _ => hl_call (HKv.out _), ?_⟩); go_big_quiet_on)
      | (apply Exists.intro; (with_reducible refine ⟨fun _ => hl_call (HVu.out _), ?_⟩); go_big_quiet_on)
      | (apply Exists.intro; (with_reducible refine ⟨fun _ => hl_call (HVv.out _), ?_⟩); go_big_quiet_on)))
  refine wpQuiet_nil ?_
  intro W1 h1
  go_wp2_with fail
  go_ret
  exact ⟨rfl, B0.out.trans (Below.mono h1 B0.out.size)⟩

set_option maxRecDepth 100000 in
set_option maxHeartbeats 4000000 in
theorem prevails_both (u v : Nat → Int) (s t : ByteArray) (w : World) (hk : kyB u v = true) (hu : okT u s = true) (hv : okT v t = true) :
    Calls Try.prog 17 #[.agg (factC u s), .agg (factC v t)] w fun e W' => e = .returned (.bool (decide (v 2 < u 2) || (decide (u 2 = v 2) && Op.bytesLess (encV v t.data.toList) (encV u s.data.toList)))) ∧ Below w.heap.size w W' := by
  have HKu := Lib.hid (fun W => Key_calls u s W)
  have HKv := Lib.hid (fun W => Key_calls v t W)
  have hq := fun W => key_neq u v true hk W
  have HVu := Lib.hid (fun W => Valid_eq u s true hu W)
  have HVv := Lib.hid (fun W => Valid_eq v t true hv W)
  have HEu := Lib.hid (fun W => encoding_calls u s W (okT_fits hu))
  have HEv := Lib.hid (fun W => encoding_calls v t W (okT_fits hv))
  clear hk hu hv
  go_enter Try.func17, Try.ntmps17
  go_upto_region 1 with (fail)
  obtain ⟨W0, hW0, f0, f1, b0⟩ := two_rows w (factC u s) (factC v t) 29 29
  rw [hW0]
  clear hW0
  have F0 := Lib.hid f0
  have F1 := Lib.hid f1
  have B0 := Lib.hid b0
  clear f0 f1 b0
  refine wp_region_hl W0 (Hl.refl _) (by kernel_rfl) (by kernel_rfl) ?_
  repeat (first
    | go_big_quiet_skip
    | (go_big_quiet_want; refine quiet_load_row _ rfl _ rfl _ _ F0.out ?_; simp only [Act.put, List.setIfInBounds_toArray, List.set_cons_zero, List.set_cons_succ]; go_big_quiet_on)
    | (go_big_quiet_want; refine quiet_load_row _ rfl _ rfl _ _ F1.out ?_; simp only [Act.put, List.setIfInBounds_toArray, List.set_cons_zero, List.set_cons_succ]; go_big_quiet_on)
    | (go_big_quiet_want; go_big_quiet_op; first
      | go_big_quiet_on
      | (apply Exists.intro; (with_reducible refine ⟨fun _ => hl_call (HKu.out _), ?_⟩); go_big_quiet_on)
      | (apply Exists.intro; (with_reducible refine ⟨fun _ => hl_call (HKv.out _), ?_⟩); go_big_quiet_on)
      | (apply Exists.intro; (with_reducible refine ⟨fun _ => hl_call (HVu.out _), ?_⟩); go_big_quiet_on)
      | (apply Exists.intro; (with_reducible refine ⟨fun _ => hl_call (HVv.out _), ?_⟩); go_big_quiet_on)))
  refine wpQuiet_nil ?_
  intro W1 h1
  have G0 := Lib.hid (h1.row F0.out)
  have G1 := Lib.hid (h1.row F1.out)
  have B1 := Lib.hid (B0.out.trans (Below.mono h1 B0.out.size))
  clear h1 F0 F1 B0 HKu HKv HVu HVv
  obtain ⟨-, -, du, -⟩ := row18 G0.out
  obtain ⟨-, -, dv, -⟩ := row18 G1.out
  by_cases he : u 2 = v 2
  · have hne : (u 2 != v 2) = false := by rw [he]; simp
    have hlt : decide (v 2 < u 2) = false := by rw [he]; simp
    have heq : decide (u 2 = v 2) = true := decide_eq_true he
    have HR : Hid ((decide (v 2 < u 2) || (decide (u 2 = v 2) && Op.bytesLess (encV v t.data.toList) (encV u s.data.toList))) = Op.bytesLess (encV v t.data.toList) (encV u s.data.toList)) := Lib.hid (by rw [hlt, heq, Bool.false_or, Bool.true_and])
    clear hlt heq he
    go_wp2_with fail
    refine wp_region_hl W1 (Hl.refl _) (by kernel_rfl) (by kernel_rfl) ?_
    repeat (first
      | go_big_quiet_skip
      | (go_big_quiet_want; refine quiet_load_row _ rfl _ rfl _ _ G0.out ?_; simp only [Act.put, List.setIfInBounds_toArray, List.set_cons_zero, List.set_cons_succ]; go_big_quiet_on)
      | (go_big_quiet_want; refine quiet_load_row _ rfl _ rfl _ _ G1.out ?_; simp only [Act.put, List.setIfInBounds_toArray, List.set_cons_zero, List.set_cons_succ]; go_big_quiet_on)
      | (go_big_quiet_want; go_big_quiet_op; first
        | go_big_quiet_on
        | (apply Exists.intro; (with_reducible refine ⟨fun _ => hl_call (HEu.out _), ?_⟩); go_big_quiet_on)
        | (apply Exists.intro; (with_reducible refine ⟨fun _ => hl_call (HEv.out _), ?_⟩); go_big_quiet_on)))
    refine wpQuiet_nil ?_
    intro W2 h2
    go_wp2_with fail
    go_ret
    
    have HG := bl_gtr (encV u s.data.toList) (encV v t.data.toList)
    exact ⟨by rw [HR.out, ← HG]; rfl, B1.out.trans (Below.mono h2 B1.out.size)⟩
  · have hne : (u 2 != v 2) = true := by simpa using he
    have heq : decide (u 2 = v 2) = false := decide_eq_false he
    have HR : Hid ((decide (v 2 < u 2) || (decide (u 2 = v 2) && Op.bytesLess (encV v t.data.toList) (encV u s.data.toList))) = decide (v 2 < u 2)) := Lib.hid (by rw [heq, Bool.false_and, Bool.or_false])
    clear heq he
    go_wp2_with fail
    go_ret
    exact ⟨by rw [HR.out]; rfl, B1.out⟩

theorem Prevails_calls (u v : Nat → Int) (s t : ByteArray) (w : World) : Calls Try.prog 17 #[.agg (factC u s), .agg (factC v t)] w fun e W' => e = .returned (.bool (pvB u s v t)) ∧ Below w.heap.size w W' := by
  unfold pvB
  rcases hk : kyB u v with _ | _
  · rw [Bool.false_and, Bool.and_false, Bool.and_false]; exact prevails_key u v s t w hk
  · rcases hu : okT u s with _ | _
    · rw [Bool.false_and]; exact prevails_first u v s t w hk hu
    · rcases hv : okT v t with _ | _
      · rw [Bool.false_and, Bool.and_false]; exact prevails_second u v s t w hk hu hv
      · rw [Bool.true_and, Bool.true_and, Bool.true_and]; exact prevails_both u v s t w hk hu hv
end Go.Proofs.Ytngkfopdlkddnaa
