/- The iterator that package digest's blocks returns: it yields the blocks of 64 bytes of the parts, one after the other. -/
import Derived.Test.YtnbeebndcgoalaaDoorDMem
import Derived.Scope
import Derived.Lib.BufferWrite
namespace Go.Proofs.YtnbeebndcgoalaaDoor
open Go.RowKit Go.Shelf
attribute [local go_sem] Oper.semAt_some

theorem wpListIn_load_row {F : Fence} {n : Nat} {P : Program} {ops : Array Oper} {rest : List Oper} {o : Oper} {a : Act} {w : World} {Q : Exit → Act → World → Prop} (hgd : o.guard = none) (ty : TypeId) (x : Operand) (ho : o.op = .load ty x)
    (g : Nat) (hx : a.eval x = .pointer (some ⟨g, 0, none⟩)) (t : TypeId) (cs : Array Value) (fr : Nat × Nat) (d : TypeDesc) (hg : w.heap[g]? = some (.cells cs t fr))
    (hu : P.underlying ty = some d) (hd : (match d with | .struct _ | .array _ _ => true | _ => false) = true) (hi : (P.info? ty).map (·.size) = some cs.size)
    (h : wpListIn F n P ops Q rest (a.put o.dst (.agg cs)) w) : wpListIn F n P ops Q (o :: rest) a w := by
  refine wpListIn_plain hgd fun K hK => ⟨by simp [Oper.about, ho], ?_⟩
  rw [Oper.semAt_plain F _ _ (by rw [ho]; intro c hc; cases hc)]
  simp only [execOp, ho, hx, Instr.loadAt, Instr.sureAddr, Sem.run_bind, Sem.run_pure, Result.andThen_ok, run_loadVar_row w g t ty cs fr d hg hu hd hi]
  exact hK _ _ h
theorem wpListIn_store_row {F : Fence} {n : Nat} {P : Program} {ops : Array Oper} {rest : List Oper} {o : Oper} {a : Act} {w : World} {Q : Exit → Act → World → Prop} (hgd : o.guard = none) (ty : TypeId) (x y : Operand) (ho : o.op = .store ty x y)
    (g : Nat) (cells : Array Value) (hx : a.eval x = .pointer (some ⟨g, 0, none⟩)) (hy : a.eval y = .agg cells)
    (t : TypeId) (old : Array Value) (hg : w.heap[g]? = some (.cells old t (0, 0))) (hi : (P.info? ty).map (·.size) = some cells.size)
    (hold : old.size = cells.size) (h1 : cells.all (·.oneCell') = true)
    (h : wpListIn F n P ops Q rest (a.put o.dst undef) (w.setRow g cells)) : wpListIn F n P ops Q (o :: rest) a w := by
  refine wpListIn_plain hgd fun K hK => ⟨by simp [Oper.about, ho], ?_⟩
  rw [Oper.semAt_plain F _ _ (by rw [ho]; intro c hc; cases hc)]
  simp only [execOp, ho, hx, hy, Instr.storeAt, Instr.sureAddr, Sem.run_bind, Sem.run_pure, Result.andThen_ok, run_storeVar_row w g t ty old cells hg hi hold h1]
  exact hK _ _ h
theorem wpListIn_copy_run {F : Fence} {n : Nat} {P : Program} (w : World) {ops : Array Oper} {rest : List Oper} {o : Oper} {a : Act} {Q : Exit → Act → World → Prop} (hgd : o.guard = none) (d s : Operand) (t t' : TypeId)
    (ho : o.op = .call { callee := .builtin .copy, args := #[d, s], argTypes := #[t, t'] }) (v u : Value) (hd : a.eval d = v) (hs : a.eval s = u) {v' : Value} {w' : World}
    (hr : (Builtin.copy_ #[t, t'] o.type #[v, u]).run P w = .ok v' w') (h : wpListIn F n P ops Q rest (a.put o.dst v') w') : wpListIn F n P ops Q (o :: rest) a w := by
  refine wpListIn_plain hgd fun K hK => ⟨by simp [Oper.about, ho, resolve, Target.leads, Sem.run_pure], ?_⟩
  rw [Oper.semAt_plain F _ _ (by rw [ho]; intro c hc; cases hc)]
  simp only [execOp, ho, resolve, invoke, builtin, Sem.run_bind, Sem.run_pure, Result.andThen_ok, List.map_toArray, List.map_cons, List.map_nil, hd, hs, hr]
  exact hK _ _ h

/-- copy into a row from a string: as many bytes as fit. -/
theorem run_copy_row_min {P : Program} (w : World) (dT sT ty elem : TypeId) (g o dLen dCap : Nat) (s : ByteArray) (cur : Array Value) (t : TypeId)
    (hu : P.underlying dT = some (.slice elem)) (hs : (P.info? elem).map (·.size) = some 1) (hg : w.heap[g]? = some (.cells cur t (0, 0))) (hfit : o + min s.size dLen ≤ cur.size) :
    (Builtin.copy_ #[dT, sT] ty #[.slice (some ⟨g, o, none⟩) dLen dCap, .string s]).run P w =
      .ok (goInt (min s.size dLen : Nat)) (w.setRow g (cur.toList.take o ++ (Lib.byteCells s.data.toList).take (min s.size dLen) ++ cur.toList.drop (o + min s.size dLen)).toArray) := by
  have hlen : ((Lib.byteCells s.data.toList).take (min s.size dLen)).length = min s.size dLen := by rw [List.length_take, Lib.byteCells_length, ← Lib.size_eq]; omega
  have hst := run_storeCells_at P g o t ((Lib.byteCells s.data.toList).take (min s.size dLen)) 0 cur w hg (by rw [hlen]; simpa using hfit) (fun v hv => Lib.byteCells_one _ v (List.mem_of_mem_take hv))
  rw [hlen] at hst
  simp only [Nat.add_zero] at hst
  cases hq : P.info? elem with
  | none => simp [hq] at hs
  | some i =>
    simp [Builtin.copy_, run_underlying hu, Builtin.lenOf, Builtin.firstCells, sizeOf, typeInfo, hq]
    have e : List.map (fun b : UInt8 => Value.int IntKind.u8 (b.toNat : Int)) s.data.toList = Lib.byteCells s.data.toList := rfl
    rw [e, hst]
    simp [Result.andThen]

theorem grownBy_setRow (w : World) (g : Nat) (cs : Array Value) : w.grownBy (w.setRow g cs) (some g) :=
  ⟨rfl, rfl, rfl, by simp, fun k _ hk => setRow_other _ _ _ _ (fun e => hk (by rw [e]))⟩
/-! ### The blocks of a string of bytes -/
def blk (T : Bs) (j : Nat) : Bs := (T.drop (64 * j)).take 64
def blks (T : Bs) (j : Nat) : List Bs := (List.range j).map (blk T)
theorem blks_succ (T : Bs) (j : Nat) : blks T (j + 1) = blks T j ++ [blk T j] := by unfold blks; rw [List.range_succ, List.map_append]; rfl
theorem blks_length (T : Bs) (j : Nat) : (blks T j).length = j := by simp [blks]
/-- The first bytes of a block are there. -/
def Filled (T : Bs) (q : Nat) (L : Bs) : Prop := L.length = 64 ∧ L.take (q % 64) = (T.drop (64 * (q / 64))).take (q % 64)
def spliceL (L p : Bs) (u n : Nat) : Bs := L.take u ++ p.take n ++ L.drop (u + n)
theorem splice_length (L p : Bs) (u n : Nat) (hL : L.length = 64) (hn : n ≤ p.length) (hu : u + n ≤ 64) : (spliceL L p u n).length = 64 := by
  unfold spliceL
  simp only [List.length_append, List.length_take, List.length_drop, hL]
  omega
theorem splice_take (T L p r : Bs) (q n : Nat) (hf : Filled T q L) (hT : T.drop q = p ++ r) (hn : n ≤ p.length) (hu : q % 64 + n ≤ 64) :
    (spliceL L p (q % 64) n).take (q % 64 + n) = (T.drop (64 * (q / 64))).take (q % 64 + n) := by
  obtain ⟨hL, hf⟩ := hf
  have h1 : (L.take (q % 64) ++ p.take n).length = q % 64 + n := by
    rw [List.length_append, List.length_take, List.length_take]; omega
  unfold spliceL
  rw [List.take_append_of_le_length (by omega), List.take_of_length_le (by omega), hf, List.take_add]
  congr 1
  rw [List.drop_drop, show 64 * (q / 64) + q % 64 = q by omega, hT, List.take_append_of_le_length hn]
theorem filled_some (T L p r : Bs) (q n : Nat) (hf : Filled T q L) (hT : T.drop q = p ++ r) (hn : n ≤ p.length) (hu : q % 64 + n < 64) :
    Filled T (q + n) (spliceL L p (q % 64) n) := by
  refine ⟨splice_length _ _ _ _ hf.1 hn (by omega), ?_⟩
  have h := splice_take T L p r q n hf hT hn (by omega)
  rw [show (q + n) % 64 = q % 64 + n by omega, show (q + n) / 64 = q / 64 by omega]
  exact h
theorem filled_all (T L p r : Bs) (q n : Nat) (hf : Filled T q L) (hT : T.drop q = p ++ r) (hn : n ≤ p.length) (hu : q % 64 + n = 64) :
    spliceL L p (q % 64) n = blk T (q / 64) := by
  have h := splice_take T L p r q n hf hT hn (by omega)
  rw [hu, List.take_of_length_le (by rw [splice_length _ _ _ _ hf.1 hn (by omega)]; exact Nat.le_refl _)] at h
  exact h
theorem filled_next (T : Bs) (q n : Nat) (L : Bs) (hL : L.length = 64) (hu : q % 64 + n = 64) : Filled T (q + n) L :=
  ⟨hL, by rw [show (q + n) % 64 = 0 by omega]; rfl⟩
theorem cells8_splice (L p : Bs) (u n : Nat) : ((cells8 L).toArray.toList.take u ++ (Lib.byteCells p).take n ++ (cells8 L).toArray.toList.drop (u + n)).toArray = (cells8 (spliceL L p u n)).toArray := by
  unfold spliceL cells8 Lib.byteCells
  simp [List.map_take, List.map_drop]
theorem KeepC.cell {g : Nat} {W W' : World} (h : KeepC g W W') {a : Addr} {v : Value} (hne : a.block ≠ g) (hc : W.cell? a = some v) : W'.cell? a = some v := by
  obtain ⟨o, ho, hu⟩ := cells_of_cell hc
  have h2 := h.2 a.block o hne ho hu
  rw [World.cell?_of_block (w := W) (w' := W') (by rw [h2, ho])]
  exact hc

theorem ext_list (s : ByteArray) (n : Nat) : (s.extract n s.size).data.toList = s.data.toList.drop n := by
  rw [Lib.extract_data, List.take_of_length_le (by simp)]
theorem size_list (s : ByteArray) : s.size = s.data.toList.length := by simp
abbrev zeros64b : Array Value := #[.int .u8 0, .int .u8 0, .int .u8 0, .int .u8 0, .int .u8 0, .int .u8 0, .int .u8 0, .int .u8 0, .int .u8 0, .int .u8 0, .int .u8 0, .int .u8 0, .int .u8 0, .int .u8 0, .int .u8 0, .int .u8 0, .int .u8 0, .int .u8 0, .int .u8 0, .int .u8 0, .int .u8 0, .int .u8 0, .int .u8 0, .int .u8 0, .int .u8 0, .int .u8 0, .int .u8 0, .int .u8 0, .int .u8 0, .int .u8 0, .int .u8 0, .int .u8 0, .int .u8 0, .int .u8 0, .int .u8 0, .int .u8 0, .int .u8 0, .int .u8 0, .int .u8 0, .int .u8 0, .int .u8 0, .int .u8 0, .int .u8 0, .int .u8 0, .int .u8 0, .int .u8 0, .int .u8 0, .int .u8 0, .int .u8 0, .int .u8 0, .int .u8 0, .int .u8 0, .int .u8 0, .int .u8 0, .int .u8 0, .int .u8 0, .int .u8 0, .int .u8 0, .int .u8 0, .int .u8 0, .int .u8 0, .int .u8 0, .int .u8 0, .int .u8 0]
def sizeV : Value → Nat
  | .string s => s.size
  | _ => 0
theorem spliceLen (L p : Bs) (u n : Nat) (hL : L.length = 64) (hn : n ≤ p.length) (hu : u + n ≤ 64) : (spliceL L p u n).length = 64 := splice_length L p u n hL hn hu

set_option maxRecDepth 100000 in
set_option maxHeartbeats 4000000 in
theorem blocks1_in (n : Nat) (g Bx gb go cap : Nat) (parts : List Bs) (w : World) (hg : g < w.heap.size) (hgb : gb ≠ g)
    (hbox : w.cell? ⟨Bx, 0, none⟩ = some (.slice (some ⟨gb, go, none⟩) parts.length cap)) (hs : StrsAt w gb go parts) (hcap : parts.length ≤ cap) (hpl : parts.length ≤ 1000) (hT : parts.flatten.length ≤ 1000000000000) :
    GivesMem Fence.wide n Tryd.prog 82 #[.pointer (some ⟨Bx, 0, none⟩)] (fun x : Bs => #[Value.agg (cells8 x).toArray]) (fun x => x.length = 64) g (parts.flatten.length / 64) (blks parts.flatten (parts.flatten.length / 64)) w := by
  obtain ⟨T, hTe⟩ : ∃ T, parts.flatten = T := ⟨_, rfl⟩
  rw [hTe] at hT ⊢
  have HTe := Lib.hid hTe
  clear hTe
  rintro l J W hw hsz hJ hY h0
  refine callsIn_of_wp Tryd.func82 rfl trivial ?_ rfl
  simp only [Tryd.ntmps82, List.size_toArray, List.length_cons, List.length_nil, Nat.reduceAdd, Nat.reduceSub, Array.replicate_succ, Array.replicate_zero, List.push_toArray, List.append_toArray, List.nil_append, List.cons_append]
  have hbW : W.cell? ⟨Bx, 0, none⟩ = some (.slice (some ⟨gb, go, none⟩) parts.length cap) := (World.cell?_of_block (hw.block _ (lt_of_cell hbox) (by simp))).trans hbox
  have hsW : StrsAt W gb go parts := fun i hi => (World.cell?_of_block (hw.block _ (lt_of_cell (hs i hi)) (by simp))).trans (hs i hi)
  gi_wp2
  refine (wpIn_wide (n := n)).2 (wp_scope_straight ((wpIn_wide (n := n)).1 ?_))
  gi_wp2
  refine wpIn_label ?_
  have HJ := Lib.hid hJ
  have HY := Lib.hid hY
  clear hJ hY
  have hB0g : W.heap.size ≠ g := by have := hsz; omega
  have hBxlt : Bx < W.heap.size := lt_of_cell hbW
  obtain ⟨W0, hW0, e0, eb, es, ej, z0⟩ : ∃ W0, W.alloc (.cells zeros64b 99) = W0 ∧ Hid (Arr8 W0 W.heap.size 99 (List.replicate 64 0)) ∧ W0.cell? ⟨Bx, 0, none⟩ = some (.slice (some ⟨gb, go, none⟩) parts.length cap) ∧ Hid (StrsAt W0 gb go parts) ∧ Hid (J [] W0) ∧ W.heap.size < W0.heap.size :=
    ⟨_, rfl, Lib.hid (heap_alloc_new W _), (World.cell?_of_block (Below.heap_alloc _ _ _ hBxlt)).trans hbW, Lib.hid fun i hi => (World.cell?_of_block (Below.heap_alloc _ _ _ (lt_of_cell (hsW i hi)))).trans (hsW i hi),
      Lib.hid (HJ.out _ _ _ none h0 (World.grownBy_alloc W _ none) (fun r e => by cases e)), by simp⟩
  rw [hW0]
  have hgbB : parts ≠ [] → gb ≠ W.heap.size := fun h => by have h2 : gb < W.heap.size := lt_of_cell (hsW 0 (List.length_pos_iff.2 h)); omega
  have Hgb := Lib.hid hgbB
  obtain ⟨B0, hB0⟩ : ∃ B0, W.heap.size = B0 := ⟨_, rfl⟩
  rw [hB0] at e0 z0 hB0g HJ Hgb ⊢
  clear hW0 hsW hbW h0 hw hsz hs hbox hBxlt hgbB hB0 hg
  obtain ⟨np, hnp⟩ : ∃ np, parts.length = np := ⟨_, rfl⟩
  rw [hnp] at eb hcap hpl
  have Hnp := Lib.hid hnp
  have hi62 : (Tryd.prog.info? 99).map (·.size) = some 64 := by kernel_rfl
  have hi5 : (Tryd.prog.info? 5).map (·.size) = some 1 := by kernel_rfl
  clear hnp
  gi_wp2
  gi_loopw [4, 10] (fun uv iv wr => ∃ (i q : Nat) (L : Bs), i ≤ np ∧ iv = .int .i64 i ∧ uv = .int .i64 ((q % 64 : Nat) : Int) ∧ Hid (q ≤ T.length) ∧ Hid (T.drop q = (parts.drop i).flatten) ∧ Hid (Filled T q L) ∧ Hid (Arr8 wr B0 99 L) ∧ Hid (StrsAt wr gb go parts) ∧ Hid (J (blks T (q / 64)) wr))
    (fun _ iv _ => np - (intOf iv).toNat)
  case atStart =>
    exact ⟨0, 0, List.replicate 64 0, by omega, rfl, rfl, Lib.hid (Nat.zero_le _), Lib.hid (by rw [← HTe.out]; rfl), Lib.hid ⟨rfl, rfl⟩, e0, es, ej⟩
  case round =>
    obtain ⟨i, q, L, hi, rfl, rfl, Hq, Hd, Hf, eA, eS, eJ⟩ := hrel
    by_cases hlt : i < np
    · have hsi := eS.out i (by rw [Hnp.out]; exact hlt)
      have Hd2 : Hid (T.drop q = (parts.getD i []) ++ (parts.drop (i + 1)).flatten) := Lib.hid (by
        have hil : i < parts.length := by rw [Hnp.out]; exact hlt
        rw [Hd.out, List.drop_eq_getElem_cons hil, List.flatten_cons, List.getD_eq_getElem?_getD, List.getElem?_eq_getElem hil]; rfl)
      have hne : parts ≠ [] := fun e => by have := Hnp.out; rw [e] at this; simp at this; omega
      have hgB := Hgb.out hne
      have Hd3 : Hid (T.drop q = (⟨(parts.getD i []).toArray⟩ : ByteArray).data.toList ++ (parts.drop (i + 1)).flatten) := Lib.hid Hd2.out
      clear Hd Hd2 hne
      generalize (⟨(parts.getD i []).toArray⟩ : ByteArray) = s0 at hsi Hd3
      generalize hR : (parts.drop (i + 1)).flatten = R at Hd3
      have HR := Lib.hid hR
      clear hR
      gi_wp2
      gi_loopw [4, 6] (fun uv sv wr => ∃ (q : Nat) (L : Bs) (s : ByteArray), sv = .string s ∧ uv = .int .i64 ((q % 64 : Nat) : Int) ∧ Hid (q ≤ T.length) ∧ Hid (T.drop q = s.data.toList ++ R) ∧ Hid (Filled T q L) ∧ Hid (Arr8 wr B0 99 L) ∧ Hid (StrsAt wr gb go parts) ∧ Hid (J (blks T (q / 64)) wr))
        (fun _ sv _ => sizeV sv)
      case atStart => exact ⟨q, L, s0, rfl, rfl, Hq, Hd3, Hf, eA, eS, eJ⟩
      case round =>
        obtain ⟨q, L, s, rfl, rfl, Hq, Hd, Hf, eA, eS, eJ⟩ := hrel
        clear Hd3 hsi
        have hsl : s.size + R.length + q = T.length := by
          have h := congrArg List.length Hd.out
          rw [List.length_drop, List.length_append, ← size_list] at h
          have := Hq.out
          omega
        obtain ⟨u, hu⟩ : ∃ u, q % 64 = u := ⟨_, rfl⟩
        rw [hu]
        have hu64 : u < 64 := by omega
        obtain ⟨m, hm⟩ : ∃ m, min s.size (64 - u) = m := ⟨_, rfl⟩
        have hms : m ≤ s.size := by omega
        have hmu : u + m ≤ 64 := by omega
        have hlen := spliceLen L s.data.toList u m Hf.out.1 (by rw [← size_list]; exact hms) hmu
        have hcp0 := run_copy_row_min (P := Tryd.prog) wr 69 9 3 5 B0 u (64 - u) (64 - u) s (cells8 L).toArray 99 Tryd.underlying69 hi5 eA.out
          (by rw [hm]; simp [cells8_length, Hf.out.1]; omega)
        rw [hm, cells8_splice] at hcp0
        have Hcp := Lib.hid hcp0
        have hq62 : (Tryd.prog.info? 99).map (·.size) = some (cells8 (spliceL L s.data.toList u m)).toArray.size := hi62.trans (by simp [cells8_length, hlen])
        have eA2 : (wr.setRow B0 (cells8 (spliceL L s.data.toList u m)).toArray).heap[B0]? = some (.cells (cells8 (spliceL L s.data.toList u m)).toArray 99 (0, 0)) := setRow_heap _ _ _ _ _ _ eA.out
        have eS2 : Hid (StrsAt (wr.setRow B0 (cells8 (spliceL L s.data.toList u m)).toArray) gb go parts) := Lib.hid fun i hi => (cell_setRow_other _ _ _ _ (by exact hgB)).trans (eS.out i hi)
        have eJ2 : J (blks T (q / 64)) (wr.setRow B0 (cells8 (spliceL L s.data.toList u m)).toArray) := HJ.out _ _ _ _ eJ.out (grownBy_setRow _ _ _) (fun r e => by cases e; exact Nat.le_refl _)
        clear hcp0
        have b1 : (u : Int) ≤ 64 := by omega
        have b2 : (m : Int) ≤ (s.size : Int) := by omega
        have b3 : (s.size : Int) ≤ 1000000000000 := by omega
        generalize hL2 : spliceL L s.data.toList u m = L2 at *
        have Hsl := Lib.hid hsl
        by_cases hlt2 : u + m < 64
        · have hms2 : m = s.size := by omega
          have F2 : Filled T (q + m) L2 := by
            have := filled_some T L s.data.toList R q m Hf.out Hd.out (by rw [← size_list]; exact hms) (by omega)
            rw [hu, hL2] at this
            exact this
          have D2 : T.drop (q + m) = (parts.drop (i + 1)).flatten := by
            rw [HR.out, ← List.drop_drop, Hd.out, hms2]
            exact List.drop_left' (size_list s).symm
          have V2 : ((u : Int) + (m : Int)) = (((q + m) % 64 : Nat) : Int) := by omega
          have J2 : J (blks T ((q + m) / 64)) (wr.setRow B0 (cells8 L2).toArray) := by rw [show (q + m) / 64 = q / 64 by omega]; exact eJ2
          have hq2 : q + m ≤ T.length := by omega
          have Hst := Lib.hid (And.intro F2 (And.intro D2 (And.intro V2 (And.intro J2 hq2))))
          have hlt3 : (u : Int) + (m : Int) < 64 := by omega
          clear F2 D2 V2 J2 hq2 hsl hu hm hL2 hlen hq62 hms2 hlt2
          gi_wp2_with (refine wpListIn_copy_run wr rfl _ _ _ _ rfl _ _ rfl rfl Hcp.out ?_)
          obtain ⟨F2, D2, V2, J2, hq2⟩ := Hst.out
          exact ⟨⟨i + 1, q + m, L2, by omega, by go_num, by rw [V2], Lib.hid hq2, Lib.hid D2, Lib.hid F2, Lib.hid eA2, eS2, Lib.hid J2⟩, by simp [intOf]; omega⟩
        · have h64 : u + m = 64 := by omega
          have hblk : L2 = blk T (q / 64) := by
            have := filled_all T L s.data.toList R q m Hf.out Hd.out (by rw [← size_list]; exact hms) (by omega)
            rw [hu, hL2] at this
            exact this
          have F2 : Filled T (q + m) L2 := filled_next T q m L2 hlen (by omega)
          have D2 : T.drop (q + m) = (s.extract m s.size).data.toList ++ R := by
            rw [ext_list, ← List.drop_drop, Hd.out, List.drop_append_of_le_length (by rw [← size_list]; exact hms)]
          have V2 : (0 : Int) = (((q + m) % 64 : Nat) : Int) := by omega
          have hq2 : q + m ≤ T.length := by omega
          have hb2 : blks T (q / 64) ++ [L2] = blks T ((q + m) / 64) := by rw [show (q + m) / 64 = q / 64 + 1 by omega, blks_succ, hblk]
          have hmz : (s.extract m s.size).size < s.size := by rw [size_list, ext_list, List.length_drop, ← size_list]; omega
          have Hst := Lib.hid (And.intro F2 (And.intro D2 (And.intro V2 (And.intro hb2 (And.intro hq2 hmz)))))
          obtain ⟨fn, tmps, assign, body, hy, hR2⟩ := HY.out (blks T (q / 64)) L2 _ hlen eJ2 (by rw [blks_length]; omega)
          have hlt3 : (64 : Int) ≤ (u : Int) + (m : Int) := by omega
          clear F2 D2 V2 hq2 hsl hu hm hL2 hlen hms hb2 hmz hblk h64 hlt2 eJ2
          gi_wp2_with (first
            | (refine wpListIn_copy_run wr rfl _ _ _ _ rfl _ _ rfl rfl Hcp.out ?_)
            | (refine wpListIn_load_row rfl 99 _ rfl B0 rfl _ _ _ _ eA2 Tryd.underlying99 rfl hq62 ?_))
          refine ⟨(fun h => nomatch h), hR2.mono ?_⟩
          rintro e W' ⟨rfl, hJ', hk⟩
          have eA3 : Hid (Arr8 W' B0 99 L2) := Lib.hid (hk.2 _ _ hB0g eA2 rfl)
          have eS3 : Hid (StrsAt W' gb go parts) := Lib.hid fun i hi => hk.cell (by exact hgb) (eS2.out i hi)
          have HJ' := Lib.hid hJ'
          clear hy hR2 hJ' hk eA2 eS2 Hcp
          gi_wp2
          obtain ⟨F2, D2, V2, hb2, hq2, hmz⟩ := Hst.out
          refine ⟨⟨q + m, L2, s.extract m s.size, rfl, by rw [V2], Lib.hid hq2, Lib.hid D2, Lib.hid F2, eA3, eS3, Lib.hid (by rw [← hb2]; exact HJ'.out)⟩, hmz⟩
    · obtain rfl : i = np := by omega
      have hq2 : T.length ≤ q := by
        have h := Hd.out
        rw [show parts.drop i = [] from List.drop_of_length_le (by rw [Hnp.out]; exact Nat.le_refl _)] at h
        have h2 := congrArg List.length h
        rw [List.length_drop] at h2
        simp at h2
        omega
      have hqT : q = T.length := by have := Hq.out; omega
      have HqT := Lib.hid hqT
      clear hq2 hqT hlt
      gi_wp2
      simp only [Exit.noGoto]
      go_end0
      exact ⟨⟨_, rfl⟩, by rw [← HqT.out]; exact eJ.out⟩
end Go.Proofs.YtnbeebndcgoalaaDoor
