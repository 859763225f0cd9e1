/- Contracts of package fact's read and Decode. Conditions: the variable errForm holds an error of its own; the string's length fits an int. -/
import Derived.Test.YtnbeebndcgoalaaDoorFRd
import Derived.Test.YtnbeebndcgoalaaDoorFVal
import Derived.Defers
import Derived.Recover
namespace Go.Proofs.YtnbeebndcgoalaaDoor
open Go.RowKit

/-- What read returns: numbers, text, errno. -/
def rdV (s : ByteArray) : Nat → Int := match rdF s.data.toList with | none => zeroV | some (l, _) => nthI l
def rdT (s : ByteArray) : ByteArray := match rdF s.data.toList with | none => ⟨#[]⟩ | some (_, t) => ⟨t.toArray⟩
def rdE (s : ByteArray) : Int := match rdF s.data.toList with | none => 10 | some _ => 0
theorem assert_nil (w : World) : (Instr.typeAssert .nilIface 20 81 true).run Tryd.prog w = .ok (.tuple #[.nilIface, .bool false]) w := by kernel_rfl
theorem assert_err (v : Value) (w : World) : (Instr.typeAssert (.iface 130 v) 20 81 true).run Tryd.prog w = .ok (.tuple #[.iface 130 v, .bool true]) w :=
  run_typeAssert_hasB Tryd.underlying81 (by kernel_rfl) v 20 w

set_option maxRecDepth 100000 in
theorem catch_idle (p q : Addr) (w : World) :
    CallsD Tryd.prog 63 #[.pointer (some p), .pointer (some q)] .returning w fun e u' w' => e = .returned (.tuple #[]) ∧ u' = .returning ∧ w' = w := by
  have ha := assert_nil
  refine callsD_of_wpS Tryd.func63 rfl fun c₀ cs hu => ?_
  apply wpS_seq
  apply wpS_region
  simp [wpOpsS, go_sem, recoverD, hu, Tryd.ntmps63, Exit.thenS, ha]
  apply wpS_seq
  apply wpS_region
  simp [wpOpsS, go_sem, recoverD, hu, Exit.thenS, Region.wanted, yielded]
  refine wpS_cond (t := false) (by simp [Act.eval, Array.replicate]) ?_
  simp only [Bool.false_eq_true, if_false]
  refine wpS_of_wp (wp_skip ?_)
  cases c₀
  simp_all [bodyPostS, results, Tryd.results63]

/-- The frame behind the closure's test: what was recovered is errForm. -/
abbrev caught (p q : Addr) (x : Value) : Array Value := #[.pointer (some p), .pointer (some q), x, .bool true, .tuple #[x, .bool true], x, .tuple #[x, .bool true], x, .bool true, .bool true, .bool true, x, x, .bool true, .bool true, undef]
set_option maxRecDepth 100000 in
set_option maxHeartbeats 1000000 in
theorem catch_panicking (B C : Nat) (a : Addr) (w : World) (old : Array Value) (x : Value) (hE : ErrK a w) (hB : w.heap[B]? = some (.cells old 23 (0, 0))) (hold : old.size = 18) (hc : w.cell? ⟨C, 0, none⟩ = some x) (hz : w.frozen? ⟨C, 0, none⟩ = false) (hBC : B ≠ C) :
    CallsD Tryd.prog 63 #[.pointer (some ⟨B, 0, none⟩), .pointer (some ⟨C, 0, none⟩)] (.panicking (boom a)) w fun e u' w' =>
      e = .returned (.tuple #[]) ∧ u' = .panicking [{ v := .iface 130 (.pointer (some a)), recovered := true }] ∧ w' = (w.setRow B (factC zeroV ⟨#[]⟩)).setCell ⟨C, 0, none⟩ (.int .i64 10) := by
  have ha := assert_err
  unfold ErrK at hE
  refine callsD_of_wpS Tryd.func63 rfl fun c₀ cs hu => ?_
  apply wpS_seq
  apply wpS_region
  simp [wpOpsS, go_sem, recoverD, hu, Tryd.ntmps63, Exit.thenS, ha]
  apply wpS_seq
  apply wpS_region
  simp [wpOpsS, go_sem, recoverD, Exit.thenS, Region.wanted, yielded, hE]
  refine (is_same a w).mono ?_
  rintro e w' ⟨rfl, rfl⟩
  refine wpS_cond (t := true) (by simp [Act.eval, Array.replicate]) ?_
  simp only [if_true]
  rw [show (Array.replicate 14 undef : Array Value) = #[undef, undef, undef, undef, undef, undef, undef, undef, undef, undef, undef, undef, undef, undef] from rfl]
  simp only [List.setIfInBounds_toArray, List.set_cons_zero, List.set_cons_succ, List.append_toArray, List.cons_append, List.nil_append]
  refine wpS_of_wp ?_
  have hone := factC_one zeroV ⟨#[]⟩
  have HB := Lib.hid hB
  have cC : (w'.setRow B (factC zeroV ⟨#[]⟩)).cell? ⟨C, 0, none⟩ = some x := (World.cell?_of_block (setRow_other _ _ _ _ (fun h => hBC h.symm))).trans hc
  have zC : (w'.setRow B (factC zeroV ⟨#[]⟩)).frozen? ⟨C, 0, none⟩ = false := by
    have h1 : (w'.setRow B (factC zeroV ⟨#[]⟩)).heap[C]? = w'.heap[C]? := setRow_other _ _ _ _ (fun h => hBC h.symm)
    have h2 : (w'.setRow B (factC zeroV ⟨#[]⟩)).frozen? ⟨C, 0, none⟩ = w'.frozen? ⟨C, 0, none⟩ := by simp [World.frozen?, h1]
    rw [h2]; exact hz
  clear hB hc hz hE ha
  go_wp2_with (refine wpList_store_row rfl 23 _ _ rfl B (factC zeroV ⟨#[]⟩) rfl rfl 23 _ HB.out (hiC _ _) hold hone ?_)
  exact ⟨rfl, _, rfl, .tuple #[], by simp [results, Tryd.results63], rfl, rfl, rfl⟩

theorem results_fact_tmp {fn : Func} {p q : Tmp} (h : fn.results = #[.cell p 23, .tmp q]) (tmps : Array Value) (w : World) (g : Nat) (v : Nat → Int) (t : ByteArray) (x : Value)
    (hp : tmps.getD p undef = .pointer (some ⟨g, 0, none⟩)) (hg : w.heap[g]? = some (.cells (factC v t) 23 (0, 0))) (hq : tmps.getD q undef = x) :
    (results fn tmps).run Tryd.prog w = .ok (.tuple #[.agg (factC v t), x]) w := by
  have hq' : tmps[q]?.getD undef = x := by simpa using hq
  have hp' : tmps[p]?.getD undef = .pointer (some ⟨g, 0, none⟩) := by simpa using hp
  have hl := run_loadVar_row w g 23 23 (factC v t) (0, 0) _ hg Tryd.underlying23 rfl (hiC v t)
  generalize factC v t = c at *
  simp [results, h, hp', asAddr, hl, hq']
theorem load_errno (w : World) (C : Nat) (x : Int) (h : w.cell? ⟨C, 0, none⟩ = some (.int .i64 x)) : (loadVar 30 ⟨C, 0, none⟩).run Tryd.prog w = .ok (.int .i64 x) w := by
  simp [loadVar, go_sem, h]
theorem results_fact_cell {fn : Func} {p q : Tmp} (h : fn.results = #[.cell p 23, .cell q 30]) (tmps : Array Value) (w : World) (g C : Nat) (x : Int) (v : Nat → Int) (t : ByteArray)
    (hp : tmps.getD p undef = .pointer (some ⟨g, 0, none⟩)) (hq : tmps.getD q undef = .pointer (some ⟨C, 0, none⟩)) (hg : w.heap[g]? = some (.cells (factC v t) 23 (0, 0))) (hC : w.cell? ⟨C, 0, none⟩ = some (.int .i64 x)) :
    (results fn tmps).run Tryd.prog w = .ok (.tuple #[.agg (factC v t), .int .i64 x]) w := by
  have hp' : tmps[p]?.getD undef = .pointer (some ⟨g, 0, none⟩) := by simpa using hp
  have hq' : tmps[q]?.getD undef = .pointer (some ⟨C, 0, none⟩) := by simpa using hq
  have hl := run_loadVar_row w g 23 23 (factC v t) (0, 0) _ hg Tryd.underlying23 rfl (hiC v t)
  have hl2 := load_errno w C x hC
  generalize factC v t = c at *
  simp [results, h, hp', hq', asAddr, hl, hl2]
theorem rdC_part (s : ByteArray) (a : Int) (v : Nat → Int) (t : ByteArray) (j : Nat) : (rdC s a v t)[2 + j]? = (factC v t)[j]? := by
  rw [Nat.add_comm 2 j]
  simp only [List.getElem?_toArray, List.getElem?_cons_succ]
theorem run_part (w : World) (g : Nat) (s : ByteArray) (aa : Int) (v : Nat → Int) (t : ByteArray) (hR : Rd w g s aa v t) : (loadVar 23 ⟨g, 2, none⟩).run Tryd.prog w = .ok (.agg (factC v t)) w := by
  have hl : (loadCells ⟨g, 2, none⟩ (factC v t).toList.length).run Tryd.prog w = .ok (factC v t).toList.toArray w :=
    run_loadCells_list (P := Tryd.prog) w ⟨g, 2, none⟩ (factC v t).toList (fun j x hx => by
      have hadd : (⟨g, 2, none⟩ : Addr).add j = ⟨g, 2 + j, none⟩ := by unfold Addr.add; split <;> simp_all
      rw [hadd, cell_of_row _ _ _ _ _ _ hR, rdC_part]
      rw [Array.getElem?_toList] at hx
      exact hx)
  have hi := hiC v t
  generalize hc : factC v t = cs at *
  cases hq : Tryd.prog.info? 23 with
  | none => simp [hq] at hi
  | some i =>
    have hs : i.size = cs.size := by simpa [hq] using hi
    simp only [Array.length_toList, Array.toArray_toList] at hl
    simp [loadVar, Sem.run_bind, Tryd.isAgg23, sizeOf, typeInfo, hq, hs, hl]
theorem wpList_load_part {ops : Array Oper} {rest : List Oper} {o : Oper} {a : Act} {w : World} {Q : Exit → Act → World → Prop} (hgd : o.guard = none) (x : Operand) (ho : o.op = .load 23 x)
    (g : Nat) (hx : a.eval x = .pointer (some ⟨g, 2, none⟩)) (s : ByteArray) (aa : Int) (v : Nat → Int) (t : ByteArray) (hR : Rd w g s aa v t)
    (h : wpList Tryd.prog ops Q rest (a.put o.dst (.agg (factC v t))) w) : wpList Tryd.prog ops Q (o :: rest) a w := by
  refine wpList_plain hgd fun K hK => ?_
  have hl := run_part w g s aa v t hR
  generalize factC v t = c at *
  unfold Oper.wp execOp
  simp only [ho, hx, Instr.loadAt, Instr.sureAddr, Sem.run_bind, Sem.run_pure, Result.andThen_ok, hl]
  exact hK _ _ h
theorem rdC_one (s : ByteArray) (a : Int) (v : Nat → Int) (t : ByteArray) : (rdC s a v t).all (·.oneCell') = true := by
  rw [Array.all_eq_true_iff_forall_mem]; intro x hx; simp at hx; rcases hx with rfl | rfl | rfl | rfl | rfl | rfl | rfl | rfl | rfl | rfl | rfl | rfl | rfl | rfl | rfl | rfl | rfl | rfl | rfl | rfl <;> rfl
theorem hiRd (s : ByteArray) (a : Int) (v : Nat → Int) (t : ByteArray) : (Tryd.prog.info? 87).map (·.size) = some (rdC s a v t).size := by kernel_rfl

set_option maxRecDepth 100000 in
set_option maxHeartbeats 4000000 in
theorem read_ok (s : ByteArray) (a : Addr) (w : World) (hE : ErrK a w) (hs : s.size ≤ 9223372036854775807) (l : List Int) (t : List UInt8) (hr : rdF s.data.toList = some (l, t)) :
    Calls Tryd.prog 39 #[.string s] w fun e W' => e = .returned (.tuple #[.agg (factC (nthI l) ⟨t.toArray⟩), .int .i64 0]) ∧ Below w.heap.size w W' := by
  have hmf : ∀ (fn : Fn) (first cap : Array Value) (w : World), (Instr.makeFunc fn first cap).run Tryd.prog w = .ok (.func fn first cap) w := fun _ _ _ _ => rfl
  have hg : 0 < w.heap.size := World.block_lt_of_cell? w _ hE
  have HE := Lib.hid hE
  have Hr := Lib.hid hr
  clear hE hr
  go_enter_defers Tryd.func39, Tryd.ntmps39
  go_upto_region 1 with (fail)
  obtain ⟨W0, hW0, f0, f1, b0⟩ := two_rows w (factC zeroV ⟨#[]⟩) #[.int .i64 0] 23 30
  rw [hW0]
  clear hW0
  have F0 := Lib.hid f0
  have F1 := Lib.hid f1
  clear f0 f1
  have hB : w.heap.size + 1 < W0.heap.size := (Array.getElem?_eq_some_iff.1 F1.out).1
  have hoR := rdC_one s 0 zeroV ⟨#[]⟩
  go_wp2_with (refine wpList_store_row rfl 87 _ _ rfl W0.heap.size (rdC s 0 zeroV ⟨#[]⟩) rfl rfl 87 _ (heap_new W0 _) (hiRd _ _ _ _) rfl hoR ?_)
  obtain ⟨W1, hW1, G0, G1, R1, B1⟩ : ∃ W1, (W0.alloc (.cells #[.string ⟨#[]⟩, .int .i64 0, .int .i64 0, .int .i64 0, .int .i64 0, .int .i64 0, .int .i64 0, .int .i64 0, .int .i64 0, .int .i64 0, .int .i64 0, .int .i64 0, .int .i64 0, .int .i64 0, .int .i64 0, .int .i64 0, .int .i64 0, .int .i64 0, .int .i64 0, .string ⟨#[]⟩] 87)).setRow W0.heap.size (rdC s 0 zeroV ⟨#[]⟩) = W1 ∧ Hid (W1.heap[w.heap.size]? = some (.cells (factC zeroV ⟨#[]⟩) 23 (0, 0))) ∧ Hid (W1.heap[w.heap.size + 1]? = some (.cells #[.int .i64 0] 30 (0, 0))) ∧
      Hid (Rd W1 W0.heap.size s 0 zeroV ⟨#[]⟩) ∧ Hid (Below w.heap.size w W1) :=
    ⟨_, rfl, Lib.hid ((setRow_other _ _ _ _ (by omega)).trans (row_aft _ _ _ _ F0.out)), Lib.hid ((setRow_other _ _ _ _ (by omega)).trans (row_aft _ _ _ _ F1.out)), Lib.hid (setRow_heap _ _ _ _ _ _ (heap_new W0 _)), Lib.hid (below_setRow' (b0.alloc b0.size _) _ _ b0.size)⟩
  rw [hW1]
  clear hW1 F0 F1 b0
  have E1 := Lib.hid (HE.out.keep B1.out hg)
  generalize W0.heap.size = b at *
  refine (all_calls b s a W1 R1.out E1.out (by omega) hs).mono ?_
  rintro e W2 ⟨h2, ⟨l', t', hr, rfl, hR⟩ | ⟨hr, rfl⟩⟩
  · rw [Hr.out] at hr
    obtain ⟨rfl, rfl⟩ : l = l' ∧ t = t' := by simpa using hr
    have K0 := Lib.hid ((h2.block w.heap.size (by omega)).trans G0.out)
    have K1 := Lib.hid ((h2.block (w.heap.size + 1) (by omega)).trans G1.out)
    have B2 := Lib.hid (B1.out.trans (h2.mono (by omega)))
    have HR := Lib.hid hR
    have k1 : (W2.setRow w.heap.size (factC (nthI l) ⟨t.toArray⟩)).cell? ⟨w.heap.size + 1, 0, none⟩ = some (.int .i64 0) := (World.cell?_of_block (setRow_other _ _ _ _ (by simp))).trans (by rw [cell_of_row _ _ _ _ _ _ K1.out]; rfl)
    have z1 : (W2.setRow w.heap.size (factC (nthI l) ⟨t.toArray⟩)).frozen? ⟨w.heap.size + 1, 0, none⟩ = false := frozen_of_row _ _ _ _ _ ((setRow_other _ _ _ _ (by simp)).trans K1.out)
    have hone := factC_one (nthI l) ⟨t.toArray⟩
    clear h2 hr hR G0 G1 R1 B1 E1 HE Hr
    go_wp2_with (first
      | (refine wpList_load_part rfl _ rfl b rfl s _ (nthI l) ⟨t.toArray⟩ HR.out ?_)
      | (refine wpList_store_row rfl 23 _ _ rfl w.heap.size (factC (nthI l) ⟨t.toArray⟩) rfl rfl 23 _ K0.out (hiC _ _) rfl hone ?_))
    refine leaves_cons (f := 63) (args := #[.pointer (some ⟨w.heap.size, 0, none⟩), .pointer (some ⟨w.heap.size + 1, 0, none⟩)]) (by simp) (by simp [go_sem]) ?_
    refine (catch_idle ⟨w.heap.size, 0, none⟩ ⟨w.heap.size + 1, 0, none⟩ _).mono ?_
    rintro e u' w'' ⟨rfl, rfl, rfl⟩
    refine ⟨_, results_fact_cell rfl _ _ w.heap.size (w.heap.size + 1) 0 (nthI l) ⟨t.toArray⟩ rfl rfl ?_ ?_, rfl, ?_⟩
    · exact (heap_setCell_other _ _ _ _ (by simp)).trans (setRow_heap W2 w.heap.size _ _ 23 (0, 0) K0.out)
    · exact World.cell?_setCell_same _ _ _ k1
    · exact (below_setRow' B2.out _ _ (Nat.le_refl _)).setCell (by simp) _
  · rw [Hr.out] at hr
    cases hr
set_option maxRecDepth 100000 in
set_option maxHeartbeats 4000000 in
theorem read_not (s : ByteArray) (a : Addr) (w : World) (hE : ErrK a w) (hs : s.size ≤ 9223372036854775807) (hr : rdF s.data.toList = none) :
    Calls Tryd.prog 39 #[.string s] w fun e W' => e = .returned (.tuple #[.agg (factC zeroV ⟨#[]⟩), .int .i64 10]) ∧ Below w.heap.size w W' := by
  have hmf : ∀ (fn : Fn) (first cap : Array Value) (w : World), (Instr.makeFunc fn first cap).run Tryd.prog w = .ok (.func fn first cap) w := fun _ _ _ _ => rfl
  have hg : 0 < w.heap.size := World.block_lt_of_cell? w _ hE
  have HE := Lib.hid hE
  have Hr := Lib.hid hr
  clear hE hr
  go_enter_defers Tryd.func39, Tryd.ntmps39
  go_upto_region 1 with (fail)
  obtain ⟨W0, hW0, f0, f1, b0⟩ := two_rows w (factC zeroV ⟨#[]⟩) #[.int .i64 0] 23 30
  rw [hW0]
  clear hW0
  have F0 := Lib.hid f0
  have F1 := Lib.hid f1
  clear f0 f1
  have hB : w.heap.size + 1 < W0.heap.size := (Array.getElem?_eq_some_iff.1 F1.out).1
  have hoR := rdC_one s 0 zeroV ⟨#[]⟩
  go_wp2_with (refine wpList_store_row rfl 87 _ _ rfl W0.heap.size (rdC s 0 zeroV ⟨#[]⟩) rfl rfl 87 _ (heap_new W0 _) (hiRd _ _ _ _) rfl hoR ?_)
  obtain ⟨W1, hW1, G0, G1, R1, B1⟩ : ∃ W1, (W0.alloc (.cells #[.string ⟨#[]⟩, .int .i64 0, .int .i64 0, .int .i64 0, .int .i64 0, .int .i64 0, .int .i64 0, .int .i64 0, .int .i64 0, .int .i64 0, .int .i64 0, .int .i64 0, .int .i64 0, .int .i64 0, .int .i64 0, .int .i64 0, .int .i64 0, .int .i64 0, .int .i64 0, .string ⟨#[]⟩] 87)).setRow W0.heap.size (rdC s 0 zeroV ⟨#[]⟩) = W1 ∧ Hid (W1.heap[w.heap.size]? = some (.cells (factC zeroV ⟨#[]⟩) 23 (0, 0))) ∧ Hid (W1.heap[w.heap.size + 1]? = some (.cells #[.int .i64 0] 30 (0, 0))) ∧
      Hid (Rd W1 W0.heap.size s 0 zeroV ⟨#[]⟩) ∧ Hid (Below w.heap.size w W1) :=
    ⟨_, rfl, Lib.hid ((setRow_other _ _ _ _ (by omega)).trans (row_aft _ _ _ _ F0.out)), Lib.hid ((setRow_other _ _ _ _ (by omega)).trans (row_aft _ _ _ _ F1.out)), Lib.hid (setRow_heap _ _ _ _ _ _ (heap_new W0 _)), Lib.hid (below_setRow' (b0.alloc b0.size _) _ _ b0.size)⟩
  rw [hW1]
  clear hW1 F0 F1 b0
  have E1 := Lib.hid (HE.out.keep B1.out hg)
  generalize W0.heap.size = b at *
  refine (all_calls b s a W1 R1.out E1.out (by omega) hs).mono ?_
  rintro e W2 ⟨h2, ⟨l', t', hr, rfl, hR⟩ | ⟨hr, rfl⟩⟩
  · rw [Hr.out] at hr
    cases hr
  · have K0 := Lib.hid ((h2.block w.heap.size (by omega)).trans G0.out)
    have K1 := Lib.hid ((h2.block (w.heap.size + 1) (by omega)).trans G1.out)
    have B2 := Lib.hid (B1.out.trans (h2.mono (by omega)))
    have E2 := Lib.hid (HE.out.keep B2.out hg)
    have Hk1 : Hid (W2.cell? ⟨w.heap.size + 1, 0, none⟩ = some (.int .i64 0)) := Lib.hid (by rw [cell_of_row _ _ _ _ _ _ K1.out]; rfl)
    have Hz1 : Hid (W2.frozen? ⟨w.heap.size + 1, 0, none⟩ = false) := Lib.hid (frozen_of_row _ _ _ _ _ K1.out)
    have Hk2 : Hid ((W2.setRow w.heap.size (factC zeroV ⟨#[]⟩)).cell? ⟨w.heap.size + 1, 0, none⟩ = some (.int .i64 0)) := Lib.hid ((World.cell?_of_block (setRow_other _ _ _ _ (by simp))).trans Hk1.out)
    clear h2 hr G0 G1 R1 B1 E1 HE Hr
    go_wp2_with fail
    refine leaves_cons (f := 63) (args := #[.pointer (some ⟨w.heap.size, 0, none⟩), .pointer (some ⟨w.heap.size + 1, 0, none⟩)]) (by simp) (by simp [go_sem]) ?_
    refine (catch_panicking w.heap.size (w.heap.size + 1) a _ _ _ E2.out K0.out rfl Hk1.out Hz1.out (by omega)).mono ?_
    rintro e u' w'' ⟨rfl, rfl, rfl⟩
    refine ⟨_, results_fact_cell rfl _ _ w.heap.size (w.heap.size + 1) 10 zeroV ⟨#[]⟩ rfl rfl ?_ ?_, rfl, ?_⟩
    · exact (heap_setCell_other _ _ _ _ (by simp)).trans (setRow_heap W2 w.heap.size _ _ 23 (0, 0) K0.out)
    · exact World.cell?_setCell_same _ _ _ Hk2.out
    · exact (below_setRow' B2.out _ _ (Nat.le_refl _)).setCell (by simp) _
theorem read_calls (s : ByteArray) (a : Addr) (w : World) (hE : ErrK a w) (hs : s.size ≤ 9223372036854775807) :
    Calls Tryd.prog 39 #[.string s] w fun e W' => e = .returned (.tuple #[.agg (factC (rdV s) (rdT s)), .int .i64 (rdE s)]) ∧ Below w.heap.size w W' := by
  rcases hr : rdF s.data.toList with _ | ⟨l, t⟩
  · have e1 : rdV s = zeroV := by unfold rdV; rw [hr]
    have e2 : rdT s = ⟨#[]⟩ := by unfold rdT; rw [hr]
    have e3 : rdE s = 10 := by unfold rdE; rw [hr]
    rw [e1, e2, e3]; exact read_not s a w hE hs hr
  · have e1 : rdV s = nthI l := by unfold rdV; rw [hr]
    have e2 : rdT s = ⟨t.toArray⟩ := by unfold rdT; rw [hr]
    have e3 : rdE s = 0 := by unfold rdE; rw [hr]
    rw [e1, e2, e3]; exact read_ok s a w hE hs l t hr


/-- What Decode returns. -/
def dcE (s : ByteArray) : Int := if rdE s = 0 then (if okT (rdV s) (rdT s) = true then 0 else 50) else rdE s
def dcV (s : ByteArray) : Nat → Int := if dcE s = 0 then rdV s else zeroV
def dcT (s : ByteArray) : ByteArray := if dcE s = 0 then rdT s else ⟨#[]⟩
theorem rdE_cases (s : ByteArray) : rdE s = 0 ∨ rdE s = 10 := by
  unfold rdE
  split
  · right; rfl
  · left; rfl
theorem valid_is (v : Nat → Int) (t : ByteArray) (c : Bool) (h : okT v t = c) (w : World) : Calls Tryd.prog 14 #[.agg (factC v t)] w fun e W' => e = .returned (.bool c) ∧ Below w.heap.size w W' := h ▸ Valid_calls v t w
set_option maxRecDepth 100000 in
set_option maxHeartbeats 1000000 in
theorem Decode_calls (s : ByteArray) (a : Addr) (w : World) (hE : ErrK a w) (hs : s.size ≤ 9223372036854775807) :
    Calls Tryd.prog 25 #[.string s] w fun e W' => e = .returned (.tuple #[.agg (factC (dcV s) (dcT s)), .int .i64 (dcE s)]) ∧ Below w.heap.size w W' := by
  have hg : 0 < w.heap.size := World.block_lt_of_cell? w _ hE
  have HE := Lib.hid hE
  clear hE
  have HRD := Lib.hid (fun W (h : ErrK a W) => read_calls s a W h hs)
  rcases rdE_cases s with h0 | h0
  · rcases hc : okT (rdV s) (rdT s) with _ | _
    · have e1 : dcE s = 50 := by unfold dcE; rw [if_pos h0, hc]; rfl
      have e2 : dcV s = zeroV := by unfold dcV; rw [e1]; rfl
      have e3 : dcT s = ⟨#[]⟩ := by unfold dcT; rw [e1]; rfl
      have HV := Lib.hid (fun W => valid_is (rdV s) (rdT s) false hc W)
      rw [e1, e2, e3]
      rw [h0] at HRD
      clear e1 e2 e3 hc h0
      generalize rdV s = v at *
      generalize rdT s = t at *
      go_enter Tryd.func25, Tryd.ntmps25
      go_upto_region 1 with (fail)
      obtain ⟨W0, hW0, f0, b0⟩ := one_row w (factC zeroV ⟨#[]⟩) 23
      rw [hW0]
      clear hW0
      have E0 := HE.out.keep b0 hg
      have F0 := Lib.hid f0
      have E0 := Lib.hid E0
      clear f0
      go_wp2_with fail
      refine (HRD.out _ E0.out).mono ?_
      rintro e W1 ⟨rfl, b1⟩
      have F1 := Lib.hid (Hl.row b1 F0.out)
      have B1 := Lib.hid (b0.trans (b1.mono b0.size))
      clear b0 b1
      have hone := factC_one v t
      have hlt1 : w.heap.size < W1.heap.size := (Array.getElem?_eq_some_iff.1 F1.out).1
      go_upto_region 2 with (refine wpList_store_row rfl 23 _ _ rfl W1.heap.size (factC v t) rfl rfl 23 _ (heap_new W1 _) (hiC _ _) rfl hone ?_)
      obtain ⟨W2, hW2, F2, G2, B2⟩ : ∃ W2, (W1.alloc (.cells (factC zeroV ⟨#[]⟩) 23)).setRow W1.heap.size (factC v t) = W2 ∧ Hid (W2.heap[w.heap.size]? = some (.cells (factC zeroV ⟨#[]⟩) 23 (0, 0))) ∧ Hid (W2.heap[W1.heap.size]? = some (.cells (factC v t) 23 (0, 0))) ∧ Hid (Below w.heap.size w W2) :=
        ⟨_, rfl, Lib.hid ((setRow_other _ _ _ _ (by omega)).trans (row_aft _ _ _ _ F1.out)), Lib.hid (setRow_heap _ _ _ _ _ _ (heap_new W1 _)), Lib.hid (below_setRow' (B1.out.alloc B1.out.size _) _ _ B1.out.size)⟩
      rw [hW2]
      clear hW2 F1 B1
      generalize W1.heap.size = b at *
      go_wp2_with (refine wpList_load_row rfl 23 _ rfl b rfl _ _ _ _ G2.out Tryd.underlying23 rfl (hiC _ _) ?_)
      refine (HV.out _).mono ?_
      rintro e W3 ⟨rfl, b3⟩
      have F3 := Lib.hid (Hl.row b3 F2.out)
      have G3 := Lib.hid (Hl.row b3 G2.out)
      have B3 := Lib.hid (B2.out.trans (b3.mono B2.out.size))
      clear b3 F2 G2 B2
      have hz := factC_one zeroV ⟨#[]⟩
      go_wp2_with (refine wpList_store_row rfl 23 _ _ rfl w.heap.size (factC zeroV ⟨#[]⟩) rfl rfl 23 _ F3.out (hiC _ _) rfl hz ?_)
      refine bodyPost_ret (v := .tuple #[.agg (factC zeroV ⟨#[]⟩), .int .i64 50]) ?_ rfl ?_
      · exact results_fact_tmp rfl _ _ w.heap.size zeroV ⟨#[]⟩ _ rfl (setRow_heap W3 w.heap.size _ _ 23 (0, 0) F3.out) rfl
      · exact ⟨rfl, below_setRow' B3.out _ _ (Nat.le_refl _)⟩
    · have e1 : dcE s = 0 := by unfold dcE; rw [if_pos h0, hc]; rfl
      have e2 : dcV s = rdV s := by unfold dcV; rw [e1]; rfl
      have e3 : dcT s = rdT s := by unfold dcT; rw [e1]; rfl
      have HV := Lib.hid (fun W => valid_is (rdV s) (rdT s) true hc W)
      rw [e1, e2, e3]
      rw [h0] at HRD
      clear e1 e2 e3 hc h0
      generalize rdV s = v at *
      generalize rdT s = t at *
      go_enter Tryd.func25, Tryd.ntmps25
      go_upto_region 1 with (fail)
      obtain ⟨W0, hW0, f0, b0⟩ := one_row w (factC zeroV ⟨#[]⟩) 23
      rw [hW0]
      clear hW0
      have E0 := HE.out.keep b0 hg
      have F0 := Lib.hid f0
      have E0 := Lib.hid E0
      clear f0
      go_wp2_with fail
      refine (HRD.out _ E0.out).mono ?_
      rintro e W1 ⟨rfl, b1⟩
      have F1 := Lib.hid (Hl.row b1 F0.out)
      have B1 := Lib.hid (b0.trans (b1.mono b0.size))
      clear b0 b1
      have hone := factC_one v t
      have hlt1 : w.heap.size < W1.heap.size := (Array.getElem?_eq_some_iff.1 F1.out).1
      go_upto_region 2 with (refine wpList_store_row rfl 23 _ _ rfl W1.heap.size (factC v t) rfl rfl 23 _ (heap_new W1 _) (hiC _ _) rfl hone ?_)
      obtain ⟨W2, hW2, F2, G2, B2⟩ : ∃ W2, (W1.alloc (.cells (factC zeroV ⟨#[]⟩) 23)).setRow W1.heap.size (factC v t) = W2 ∧ Hid (W2.heap[w.heap.size]? = some (.cells (factC zeroV ⟨#[]⟩) 23 (0, 0))) ∧ Hid (W2.heap[W1.heap.size]? = some (.cells (factC v t) 23 (0, 0))) ∧ Hid (Below w.heap.size w W2) :=
        ⟨_, rfl, Lib.hid ((setRow_other _ _ _ _ (by omega)).trans (row_aft _ _ _ _ F1.out)), Lib.hid (setRow_heap _ _ _ _ _ _ (heap_new W1 _)), Lib.hid (below_setRow' (B1.out.alloc B1.out.size _) _ _ B1.out.size)⟩
      rw [hW2]
      clear hW2 F1 B1
      generalize W1.heap.size = b at *
      go_wp2_with (refine wpList_load_row rfl 23 _ rfl b rfl _ _ _ _ G2.out Tryd.underlying23 rfl (hiC _ _) ?_)
      refine (HV.out _).mono ?_
      rintro e W3 ⟨rfl, b3⟩
      have F3 := Lib.hid (Hl.row b3 F2.out)
      have G3 := Lib.hid (Hl.row b3 G2.out)
      have B3 := Lib.hid (B2.out.trans (b3.mono B2.out.size))
      clear b3 F2 G2 B2
      have hz := factC_one zeroV ⟨#[]⟩
      go_wp2_with (first
        | (refine wpList_load_row rfl 23 _ rfl b rfl _ _ _ _ G3.out Tryd.underlying23 rfl (hiC _ _) ?_)
        | (refine wpList_store_row rfl 23 _ _ rfl w.heap.size (factC v t) rfl rfl 23 _ F3.out (hiC _ _) rfl hone ?_))
      refine bodyPost_ret (v := .tuple #[.agg (factC v t), .int .i64 0]) ?_ rfl ?_
      · exact results_fact_tmp rfl _ _ w.heap.size v t _ rfl (setRow_heap W3 w.heap.size _ _ 23 (0, 0) F3.out) rfl
      · exact ⟨rfl, below_setRow' B3.out _ _ (Nat.le_refl _)⟩
  · have e1 : dcE s = 10 := by unfold dcE; rw [if_neg (by rw [h0]; decide), h0]
    have e2 : dcV s = zeroV := by unfold dcV; rw [e1]; rfl
    have e3 : dcT s = ⟨#[]⟩ := by unfold dcT; rw [e1]; rfl
    rw [e1, e2, e3]
    rw [h0] at HRD
    clear e1 e2 e3 h0
    generalize rdV s = v at *
    generalize rdT s = t at *
    go_enter Tryd.func25, Tryd.ntmps25
    go_upto_region 1 with (fail)
    obtain ⟨W0, hW0, f0, b0⟩ := one_row w (factC zeroV ⟨#[]⟩) 23
    rw [hW0]
    clear hW0
    have E0 := HE.out.keep b0 hg
    have F0 := Lib.hid f0
    have E0 := Lib.hid E0
    clear f0
    go_wp2_with fail
    refine (HRD.out _ E0.out).mono ?_
    rintro e W1 ⟨rfl, b1⟩
    have F1 := Lib.hid (Hl.row b1 F0.out)
    have B1 := Lib.hid (b0.trans (b1.mono b0.size))
    clear b0 b1
    have hone := factC_one v t
    have hlt1 : w.heap.size < W1.heap.size := (Array.getElem?_eq_some_iff.1 F1.out).1
    go_upto_region 2 with (refine wpList_store_row rfl 23 _ _ rfl W1.heap.size (factC v t) rfl rfl 23 _ (heap_new W1 _) (hiC _ _) rfl hone ?_)
    obtain ⟨W2, hW2, F2, G2, B2⟩ : ∃ W2, (W1.alloc (.cells (factC zeroV ⟨#[]⟩) 23)).setRow W1.heap.size (factC v t) = W2 ∧ Hid (W2.heap[w.heap.size]? = some (.cells (factC zeroV ⟨#[]⟩) 23 (0, 0))) ∧ Hid (W2.heap[W1.heap.size]? = some (.cells (factC v t) 23 (0, 0))) ∧ Hid (Below w.heap.size w W2) :=
      ⟨_, rfl, Lib.hid ((setRow_other _ _ _ _ (by omega)).trans (row_aft _ _ _ _ F1.out)), Lib.hid (setRow_heap _ _ _ _ _ _ (heap_new W1 _)), Lib.hid (below_setRow' (B1.out.alloc B1.out.size _) _ _ B1.out.size)⟩
    rw [hW2]
    clear hW2 F1 B1
    generalize W1.heap.size = b at *
    have hz := factC_one zeroV ⟨#[]⟩
    go_wp2_with (refine wpList_store_row rfl 23 _ _ rfl w.heap.size (factC zeroV ⟨#[]⟩) rfl rfl 23 _ F2.out (hiC _ _) rfl hz ?_)
    refine bodyPost_ret (v := .tuple #[.agg (factC zeroV ⟨#[]⟩), .int .i64 10]) ?_ rfl ?_
    · exact results_fact_tmp rfl _ _ w.heap.size zeroV ⟨#[]⟩ _ rfl (setRow_heap W2 w.heap.size _ _ 23 (0, 0) F2.out) rfl
    · exact ⟨rfl, below_setRow' B2.out _ _ (Nat.le_refl _)⟩

end Go.Proofs.YtnbeebndcgoalaaDoor
