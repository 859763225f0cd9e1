/- Contracts of errors.Is and of the methods of package fact's cursor. Condition: the variable errForm holds an error of its own. -/
import Derived.Test.YtnbeebndcgoalaaDoorFMea
import Derived.WalkKit
import Derived.LaidEql
import Derived.Stop.Asserts
import Derived.RowKitTokens
import Derived.Test.YtnbeebndcgoalaaDoorChecked
namespace Go.Proofs.YtnbeebndcgoalaaDoor
open Go.RowKit Go.Extern.Stop Go.Stop Go.Extern

theorem isTypeOf (v : Value) (w : World) : (Extern.ReflectliteType.typeOf #[.iface 130 v]).run Tryd.prog w = .ok (.iface 117 (.agg #[.pointer (some ⟨2, 130, none⟩)])) w := by kernel_rfl
theorem isComparable (w : World) : (callFunc 109 #[.agg #[.pointer (some ⟨2, 130, none⟩)]]).run Tryd.prog w = .ok (.value (.bool true)) w := by
  have h32 := @run_callFunc_extern Tryd.prog 109 _ (Extern.ReflectliteType.method fun t => do Extern.Rtype.noPackHeld "Comparable" t; pure (.bool (← typeInfo t).comparable)) Tryd.func109 (by kernel_rfl) (by kernel_rfl) (by kernel_rfl) (by kernel_rfl)
  exact (h32 _ w).trans (by kernel_rfl)
theorem isMethodComparable (v : Value) (w : World) : (Go.method 264 117 v "Comparable").run Tryd.prog w = .ok (109, v) w := by kernel_rfl
theorem isComp : (Tryd.prog.info? 130).map (·.comparable) = some true := by kernel_rfl
theorem isSize : (Tryd.prog.info? 152).map (·.size) = some 1 := by kernel_rfl
set_option maxRecDepth 100000 in
theorem is_same (a : Addr) (w : World) :
    Calls Tryd.prog 64 #[.iface 130 (.pointer (some a)), .iface 130 (.pointer (some a))] w fun e w' => e = .returned (.bool true) ∧ w' = w := by
  obtain ⟨i, hi, hcmp⟩ := Option.map_eq_some_iff.1 isComp
  obtain ⟨j, hj, hjs⟩ := Option.map_eq_some_iff.1 isSize
  have h8 := @run_callFunc_extern Tryd.prog 75 _ Extern.ReflectliteType.typeOf Tryd.func75 (by kernel_rfl) (by kernel_rfl) (by kernel_rfl) (by kernel_rfl)
  have tT := isTypeOf
  have cT := isComparable
  have mR := isMethodComparable
  have heq := run_eql_iface_ptr_same (P := Tryd.prog) w a Tryd.underlying81 Tryd.underlying130 hi hcmp hj
  go_enter Tryd.func64, Tryd.ntmps64
  go_wp2
  refine wp_loop_rounds 1 ?_
  rw [rounds_succ]
  go_wp2
  go_ret
  exact ⟨rfl, rfl⟩

/-- The variable errForm holds the error at a. -/
def ErrK (a : Addr) (w : World) : Prop := w.cell? ⟨0, 0, none⟩ = some (.iface 130 (.pointer (some a)))
/-- A panic with errForm. -/
abbrev boom (a : Addr) : List PanicEntry := [{ v := .iface 130 (.pointer (some a)), recovered := false }]
theorem pass_ok (b : Nat) (m : Int) (w : World) (x : Value) (hc : w.cell? ⟨b, 1, none⟩ = some x) (hz : w.frozen? ⟨b, 1, none⟩ = false) :
    Calls Tryd.prog 86 #[.pointer (some ⟨b, 0, none⟩), .int .i64 m, .int .i64 0] w fun e w' => e = .returned (.tuple #[]) ∧ w.setCell ⟨b, 1, none⟩ (.int .i64 m) = w' := by
  go_enter Tryd.func86, Tryd.ntmps86
  go_wp2_with fail
  go_end0
  exact ⟨rfl, rfl⟩
theorem pass_not (b : Nat) (m c : Int) (a : Addr) (w : World) (hE : ErrK a w) (hb : (c != 0) = true) :
    Calls Tryd.prog 86 #[.pointer (some ⟨b, 0, none⟩), .int .i64 m, .int .i64 c] w fun e w' => e = .panicked (boom a) ∧ w = w' := by
  unfold ErrK at hE
  go_enter Tryd.func86, Tryd.ntmps86
  go_wp2_with fail
  exact ⟨rfl, rfl, rfl⟩

theorem int_quiet (s : ByteArray) (p : Nat) (w : World) (n : Nat) (m q : Int) (c : Int) (hs : s.size ≤ 9223372036854775807) (ha1 : p ≤ s.size) (h : intF s.data.toList p = (m, q, c)) :
    Calls Tryd.prog 85 #[.string s, .int .i64 (p : Int)] (w.drewN n) fun e w'' => e = .returned (.tuple #[.int .i64 m, .int .i64 q, .int .i64 c]) ∧ ∃ m, w'' = w.drewN m := by
  have h1 := int_calls s p (w.drewN n) hs ha1
  rw [h] at h1
  exact Calls.quiet_of_same (h1.mono fun _ _ ⟨g1, g2⟩ => ⟨g1, g2.symm⟩)
set_option maxRecDepth 100000 in
theorem number_ok (b : Nat) (s : ByteArray) (p : Nat) (n : Int) (m : Nat) (w : World) (c0 : w.cell? ⟨b, 0, none⟩ = some (.string s)) (c1 : w.cell? ⟨b, 1, none⟩ = some (.int .i64 (p : Int))) (hz : w.frozen? ⟨b, 1, none⟩ = false)
    (hs : s.size ≤ 9223372036854775807) (hp : p ≤ s.size) (h : getI s.data.toList p = some (n, m)) :
    Calls Tryd.prog 77 #[.pointer (some ⟨b, 0, none⟩)] w fun e w' => e = .returned (.int .i64 n) ∧ ∃ nq, (w.drewN nq).setCell ⟨b, 1, none⟩ (.int .i64 (m : Int)) = w' := by
  have HI := Lib.hid (fun k => int_quiet s p w k _ _ _ hs hp (intF_some _ _ (by simpa using hp) _ _ h))
  clear h
  go_enter Tryd.func77, Tryd.ntmps77
  go_wp2_with fail
  go_quiet ((go_at_call 85; exact HI.out _))
  go_wp2_with fail
  refine (pass_ok b (m : Int) (w.drewN nq) _ c1 hz).mono ?_
  rintro e w' ⟨rfl, rfl⟩
  go_wp2_with fail
  go_ret
  exact ⟨rfl, nq, rfl⟩
set_option maxRecDepth 100000 in
theorem number_not (b : Nat) (s : ByteArray) (p : Nat) (a : Addr) (w : World) (hE : ErrK a w) (c0 : w.cell? ⟨b, 0, none⟩ = some (.string s)) (c1 : w.cell? ⟨b, 1, none⟩ = some (.int .i64 (p : Int)))
    (hs : s.size ≤ 9223372036854775807) (hp : p ≤ s.size) (h : getI s.data.toList p = none) :
    Calls Tryd.prog 77 #[.pointer (some ⟨b, 0, none⟩)] w fun e w' => e = .panicked (boom a) ∧ ∃ nq, w.drewN nq = w' := by
  have HI := Lib.hid (fun k => int_quiet s p w k _ _ _ hs hp (intF_none _ _ (by simpa using hp) h))
  have HE := Lib.hid hE
  clear h hE
  go_enter Tryd.func77, Tryd.ntmps77
  go_wp2_with fail
  go_quiet ((go_at_call 85; exact HI.out _))
  go_wp2_with fail
  refine (pass_not b 0 10 a (w.drewN nq) HE.out rfl).mono ?_
  rintro e w' ⟨rfl, rfl⟩
  go_wp2_with fail
  exact ⟨rfl, rfl, nq, rfl⟩
set_option maxRecDepth 100000 in
theorem end_ok (b : Nat) (s : ByteArray) (p : Nat) (w : World) (c0 : w.cell? ⟨b, 0, none⟩ = some (.string s)) (c1 : w.cell? ⟨b, 1, none⟩ = some (.int .i64 (p : Int))) (hp : ¬ (p : Int) < (s.size : Int)) :
    Calls Tryd.prog 79 #[.pointer (some ⟨b, 0, none⟩)] w fun e w' => e = .returned (.tuple #[]) ∧ ∃ nq, w.drewN nq = w' := by
  go_enter Tryd.func79, Tryd.ntmps79
  go_wp2_with fail
  go_quiet (fail)
  go_wp2_with fail
  go_end0
  exact ⟨rfl, nq, rfl⟩
set_option maxRecDepth 100000 in
theorem end_not (b : Nat) (s : ByteArray) (p : Nat) (a : Addr) (w : World) (hE : ErrK a w) (c0 : w.cell? ⟨b, 0, none⟩ = some (.string s)) (c1 : w.cell? ⟨b, 1, none⟩ = some (.int .i64 (p : Int))) (hp : (p : Int) < (s.size : Int)) :
    Calls Tryd.prog 79 #[.pointer (some ⟨b, 0, none⟩)] w fun e w' => e = .panicked (boom a) ∧ ∃ nq, w.drewN nq = w' := by
  unfold ErrK at hE
  go_enter Tryd.func79, Tryd.ntmps79
  go_wp2_with fail
  go_quiet (fail)
  go_wp2_with fail
  exact ⟨rfl, rfl, nq, rfl⟩
set_option maxRecDepth 100000 in
set_option maxHeartbeats 1000000 in
theorem text_ok (b : Nat) (s : ByteArray) (p : Nat) (t : List UInt8) (m : Nat) (w : World) (c0 : w.cell? ⟨b, 0, none⟩ = some (.string s)) (c1 : w.cell? ⟨b, 1, none⟩ = some (.int .i64 (p : Int))) (hz : w.frozen? ⟨b, 1, none⟩ = false)
    (hs : s.size ≤ 9223372036854775807) (hp : p ≤ s.size) (h : getS s.data.toList p = some (t, m)) :
    Calls Tryd.prog 78 #[.pointer (some ⟨b, 0, none⟩)] w fun e w' => e = .returned (.string ⟨t.toArray⟩) ∧ ∃ w1, Hl w w1 ∧ w1.setCell ⟨b, 1, none⟩ (.int .i64 (m : Int)) = w' := by
  have HI := Lib.hid (fun W => string_some s p W hs hp t m h)
  clear h
  have hb : b < w.heap.size := World.block_lt_of_cell? w _ c1
  have d0 : ∀ x : Wl w, x.1.cell? ⟨b, 0, none⟩ = some (.string s) := fun x => x.2.cell c0
  have d1 : ∀ x : Wl w, x.1.cell? ⟨b, 1, none⟩ = some (.int .i64 (p : Int)) := fun x => x.2.cell c1
  go_enter Tryd.func78, Tryd.ntmps78
  go_wp2_with fail
  refine wp_region_hl w (Hl.refl _) (by kernel_rfl) (by kernel_rfl) ?_
  repeat (first
    | go_big_quiet_skip
    | (go_big_quiet_want; go_big_quiet_op; first
      | go_big_quiet_on
      | (apply Exists.intro; refine ⟨fun _ => hl_call (HI.out _), ?_⟩; go_big_quiet_on)))
  refine wpQuiet_nil ?_
  intro W1 h1
  have e1 := h1.cell c1
  have z1 : W1.frozen? ⟨b, 1, none⟩ = false := (Below.frozen (p := ⟨b, 1, none⟩) h1 hb).trans hz
  go_wp2_with fail
  refine (pass_ok b (m : Int) _ _ e1 z1).mono ?_
  rintro e w' ⟨rfl, rfl⟩
  go_wp2_with fail
  go_ret
  exact ⟨rfl, W1, h1, rfl⟩
set_option maxRecDepth 100000 in
set_option maxHeartbeats 1000000 in
theorem text_not (b : Nat) (s : ByteArray) (p : Nat) (a : Addr) (w : World) (hE : ErrK a w) (c0 : w.cell? ⟨b, 0, none⟩ = some (.string s)) (c1 : w.cell? ⟨b, 1, none⟩ = some (.int .i64 (p : Int)))
    (hs : s.size ≤ 9223372036854775807) (hp : p ≤ s.size) (h : getS s.data.toList p = none) :
    Calls Tryd.prog 78 #[.pointer (some ⟨b, 0, none⟩)] w fun e w' => e = .panicked (boom a) ∧ Hl w w' := by
  have HI : Hid (∀ W, Calls Tryd.prog 87 #[.string s, .int .i64 (p : Int)] W fun r w' => r = .returned (.tuple #[.string ⟨#[]⟩, .int .i64 0, .int .i64 10]) ∧ Below W.heap.size W w') := Lib.hid (fun W => by
    have h1 := str_all s p W hs
    have h2 : strF s.data.toList (p : Int) = ([], 0, 10) := by
      unfold strF
      have hl : s.data.toList.length = s.size := by simp
      rw [if_neg (by omega), Int.toNat_natCast, h]
    rw [h2] at h1
    exact h1)
  have HE := Lib.hid hE
  clear h hE
  have d0 : ∀ x : Wl w, x.1.cell? ⟨b, 0, none⟩ = some (.string s) := fun x => x.2.cell c0
  have d1 : ∀ x : Wl w, x.1.cell? ⟨b, 1, none⟩ = some (.int .i64 (p : Int)) := fun x => x.2.cell c1
  go_enter Tryd.func78, Tryd.ntmps78
  go_wp2_with fail
  refine wp_region_hl w (Hl.refl _) (by kernel_rfl) (by kernel_rfl) ?_
  repeat (first
    | go_big_quiet_skip
    | (go_big_quiet_want; go_big_quiet_op; first
      | go_big_quiet_on
      | (apply Exists.intro; refine ⟨fun _ => hl_call (HI.out _), ?_⟩; go_big_quiet_on)))
  refine wpQuiet_nil ?_
  intro W1 h1
  have hE1 : ErrK a W1 := h1.cell HE.out
  have HE1 := Lib.hid hE1
  clear hE1
  go_wp2_with fail
  refine (pass_not b 0 10 a _ HE1.out rfl).mono ?_
  rintro e w' ⟨rfl, rfl⟩
  go_wp2_with fail
  exact ⟨rfl, rfl, h1⟩

end Go.Proofs.YtnbeebndcgoalaaDoor
