/- Contracts of package factset's New, apart, put, Has, Get and Len: a set is a block that holds a map. | The contract of package factset's Add. Condition: the table of constants reads as the program lays it. -/
import Derived.Test.YtnndnjnpkjpkpaaGreatDoorSpf
import Derived.Test.YtnndnjnpkjpkpaaGreatDoorFHlp
import Derived.Test.YtnndnjnpkjpkpaaGreatDoorQtl
import Derived.Test.YtnndnjnpkjpkpaaGreatDoorDTr
import Derived.Maps.OwnOps
import Derived.Maps.OwnSet
import Derived.StringKeys
namespace Go.Proofs.YtnndnjnpkjpkpaaGreatDoor
open Go.RowKit Go.Maps

/-- A set: its block, its map's block, its elements. -/
def SetAt (w : World) (p b : Nat) (es : List Ent) : Prop :=
  w.heap[p]? = some (.cells #[.map (some b)] 62 (0, 0)) ∧ w.ownsMap Tryz.prog 9 valR b es.length (dS es)

theorem owns_tight {H : Type} {P : Program} {k : TypeId} {R : Value → Option (DataW H × List MemPlace)} {w : World} {b n : Nat} {D : DataW H} (h : w.ownsMap P k R b n D) : w.ownsMap P k R b (Maps.size D) D := by
  obtain ⟨es, clock, hb, F, _, rfl⟩ := h
  refine ⟨es, clock, hb, F, ?_, rfl⟩
  rw [Maps.size_eq, length_sorted, List.length_map]
  simp
theorem SetAt.of {w : World} {p b n : Nat} {es : List Ent} (h1 : w.heap[p]? = some (.cells #[.map (some b)] 62 (0, 0))) (h2 : w.ownsMap Tryz.prog 9 valR b n (dS es)) : SetAt w p b es := by
  refine ⟨h1, ?_⟩
  have := owns_tight h2
  rw [size_dS] at this
  exact this
theorem SetAt.keep {w w' : World} {p b : Nat} {es : List Ent} {row : Option Nat} (h : SetAt w p b es) (hg : w.grownBy w' row) (h1 : row ≠ some p) (h2 : row ≠ some b) : SetAt w' p b es :=
  ⟨grown_row hg h.1 h1, h.2.kept hg (Ne.symm h2)⟩
theorem SetAt.below {w w' : World} {p b : Nat} {es : List Ent} (h : SetAt w p b es) (hb : Below w.heap.size w w') : SetAt w' p b es :=
  h.keep (grown_of_below hb) (by simp) (by simp)
theorem SetAt.ltp {w : World} {p b : Nat} {es : List Ent} (h : SetAt w p b es) : p < w.heap.size := (Array.getElem?_eq_some_iff.1 h.1).1
theorem SetAt.ltb {w : World} {p b : Nat} {es : List Ent} (h : SetAt w p b es) : b < w.heap.size := h.2.lt
theorem SetAt.ne {w : World} {p b : Nat} {es : List Ent} (h : SetAt w p b es) : p ≠ b := by
  rintro rfl
  obtain ⟨es', clock, hb, _⟩ := h.2
  have h1 := h.1
  rw [hb] at h1
  cases h1
theorem SetAt.cell {w : World} {p b : Nat} {es : List Ent} (h : SetAt w p b es) : w.cell? ⟨p, 0, none⟩ = some (.map (some b)) := by
  rw [cell_of_row _ _ _ _ _ _ h.1]; rfl
/-- The zero fact. -/
abbrev zeroA : Fa := (fun _ => 0, ⟨#[]⟩)
theorem zero_fact (w : World) : (zeroValue 40).run Tryz.prog w = .ok (valF zeroA) w := Tryz.zeroValue40 w
theorem key_lit {s : ByteArray} (hs : s.size ≤ maxLen) : keyOf Tryz.prog 9 (.string s) = some (.string s.data.toList) := WideMaps.keyOf_string_mk Tryz.underlying9 hs
/-- What a look-up gives. -/
def lookE (es : List Ent) (k : List UInt8) : Value := (getE es k).getD (valF zeroA)
theorem SetAt.look_ok {w : World} {p b : Nat} {es : List Ent} (h : SetAt w p b es) (k : ByteArray) (hk : k.size ≤ maxLen) :
    (Instr.lookup 60 (.map (some b)) (.string k) true).run Tryz.prog w = .ok (.tuple #[lookE es k.data.toList, .bool (hasE es k.data.toList)]) w := by
  obtain ⟨v, ps, hrun, hv⟩ := h.2.look_ok (string_keyed Tryz.underlying9) Tryz.underlying60 (zero_fact w) (show valR (valF zeroA) = some (.held (valF zeroA), []) from rfl) (key_lit hk)
  rw [at_dS, has_dS] at *
  unfold valR at hv
  simp only [Option.some.injEq, Prod.mk.injEq, DataW.held.injEq] at hv
  rw [hrun, hv.1]
  rfl
theorem SetAt.look {w : World} {p b : Nat} {es : List Ent} (h : SetAt w p b es) (k : ByteArray) (hk : k.size ≤ maxLen) :
    (Instr.lookup 60 (.map (some b)) (.string k) false).run Tryz.prog w = .ok (lookE es k.data.toList) w := by
  obtain ⟨v, ps, hrun, hv⟩ := h.2.lookup (string_keyed Tryz.underlying9) Tryz.underlying60 (zero_fact w) (show valR (valF zeroA) = some (.held (valF zeroA), []) from rfl) (key_lit hk)
  rw [at_dS] at *
  unfold valR at hv
  simp only [Option.some.injEq, Prod.mk.injEq, DataW.held.injEq] at hv
  rw [hrun, hv.1]
  rfl
theorem look_fact {es : List Ent} (h : Facts es) (k : List UInt8) : ∃ f : Fa, lookE es k = valF f := by
  unfold lookE
  cases hg : getE es k with
  | none => exact ⟨zeroA, rfl⟩
  | some x =>
    obtain ⟨f, _, e⟩ := h _ (getE_mem hg)
    exact ⟨f, congrArg Prod.snd e⟩

/-! ### New -/
set_option maxRecDepth 100000 in
theorem New_calls (w : World) : Calls Tryz.prog 6 #[] w fun e W' => ∃ p b, e = .returned (.pointer (some ⟨p, 0, none⟩)) ∧ SetAt W' p b [] ∧ w.heap.size ≤ p ∧ w.heap.size ≤ b ∧ Below w.heap.size w W' := by
  have hmm := @run_makeMap Tryz.prog
  go_enter Tryz.func6, Tryz.ntmps6
  go_wp2_with fail
  go_ret
  refine ⟨w.heap.size + 1, w.heap.size, rfl, ⟨?_, ?_⟩, by omega, by omega, ?_⟩
  · have := heap_new (w.alloc (.map #[] 0)) (.cells #[.map (some w.heap.size)] 62)
    rw [World.size_alloc] at this
    exact this
  · exact (World.ownsMap_made w Tryz.prog 9 valR).alloc _
  · exact ((Below.refl _ w).alloc (Nat.le_refl _) _).alloc (by simp) _

/-! ### apart -/
theorem text_row {W : World} {b : Nat} {g : Nat → Int} {t : ByteArray} (s : ByteArray) (h : W.heap[b]? = some (.cells (factC g t) 40 (0, 0))) : (W.setCell ⟨b, 17, none⟩ (.string s)).heap[b]? = some (.cells (factC g s) 40 (0, 0)) := by
  rw [heap_setCell_same _ _ _ _ _ _ h]; rfl
theorem cell_aside {W : World} {b d : Nat} {o : Obj} (i : Nat) (x : Value) (hd : b ≠ d) (h : W.heap[b]? = some o) : (W.setCell ⟨d, i, none⟩ x).heap[b]? = some o := by
  exact (heap_setCell_other _ _ _ _ hd).trans h
set_option maxRecDepth 100000 in
theorem Clone_calls (s : ByteArray) (w : World) (hlim : s.size ≤ 281474976710656) : Calls Tryz.prog 37 #[.string s] w fun e W' => e = .returned (.string s) ∧ Below w.heap.size w W' := by
  have HC := Lib.hid (stringslite_Clone s w hlim)
  go_enter Tryz.func37, Tryz.ntmps37
  go_wp2_with fail
  refine HC.out.mono ?_
  rintro e W1 ⟨rfl, b1⟩
  go_wp2_with fail
  go_ret
  exact ⟨rfl, b1⟩

set_option maxRecDepth 100000 in
theorem apart_calls (v : Nat → Int) (t : ByteArray) (w : World) (ht : t.size ≤ 281474976710656) : Calls Tryz.prog 38 #[.agg (factC v t)] w fun e W' => e = .returned (.agg (factC v t)) ∧ Below w.heap.size w W' := by
  have HC := Lib.hid (fun W => Clone_calls t W ht)
  go_enter Tryz.func38, Tryz.ntmps38
  go_upto_region 1 with (fail)
  obtain ⟨W0, hW0, f0, f1, b0⟩ := two_rows w (factC v t) (factC (fun _ => 0) ⟨#[]⟩) 40 40
  rw [hW0]
  clear hW0
  have F0 := Lib.hid f0
  have F1 := Lib.hid f1
  have B0 := Lib.hid b0
  have c17 := (row18 f0).2.2.2.2.2.2.2.2.2.2.2.2.2.2.2.2.2
  clear f0 f1 b0
  go_wp2_with fail
  refine (HC.out _).mono ?_
  rintro e W1 ⟨rfl, b1⟩
  have G0 := Lib.hid (Hl.row b1 F0.out)
  have G1 := Lib.hid (Hl.row b1 F1.out)
  have B1 := Lib.hid b1
  have cc : W1.cell? ⟨w.heap.size, 17, none⟩ = some (.string t) := by rw [cell_of_row _ _ _ _ _ _ G0.out]; rfl
  have cf : W1.frozen? ⟨w.heap.size, 17, none⟩ = false := frozen_of_row _ _ _ _ _ G0.out
  clear b1 c17
  go_upto_region 2 with (fail)
  obtain ⟨W2, hW2, F2, G2, B2⟩ : ∃ W2, W1.setCell ⟨w.heap.size, 17, none⟩ (.string t) = W2 ∧ Hid (W2.heap[w.heap.size]? = some (.cells (factC v t) 40 (0, 0))) ∧ Hid (W2.heap[w.heap.size + 1]? = some (.cells (factC (fun _ => 0) ⟨#[]⟩) 40 (0, 0))) ∧ Hid (Below w.heap.size w W2) :=
    ⟨_, rfl, Lib.hid (text_row t G0.out), Lib.hid (cell_aside 17 _ (by omega) G1.out), Lib.hid ((B0.out.trans (Below.mono B1.out B0.out.size)).setCell (p := ⟨w.heap.size, 17, none⟩) (Nat.le_refl _) _)⟩
  rw [hW2]
  clear hW2 G0 G1 B1 F0 F1 B0 cc cf
  have hone := factC_one v t
  go_wp2_with (first
    | refine wpList_load_row rfl 40 _ rfl w.heap.size rfl _ _ _ _ F2.out Tryz.underlying40 rfl (hiC _ _) ?_
    | refine wpList_store_row rfl 40 _ _ rfl (w.heap.size + 1) (factC v t) rfl rfl 40 _ G2.out (hiC _ _) rfl hone ?_)
  refine bodyPost_ret (v := .agg (factC v t)) ?_ rfl ?_
  · exact results_cell_row rfl _ _ (w.heap.size + 1) 40 _ (0, 0) _ rfl (setRow_heap _ (w.heap.size + 1) _ _ 40 (0, 0) G2.out) Tryz.underlying40 rfl (hiC _ _)
  · exact ⟨rfl, below_setRow' B2.out _ _ (by omega)⟩

/-! ### Has, Get, Len -/
set_option maxRecDepth 100000 in
theorem Has_nil (k : ByteArray) (w : World) : Calls Tryz.prog 27 #[.pointer none, .string k] w fun e W' => e = .returned (.bool false) ∧ w = W' := by
  go_enter Tryz.func27, Tryz.ntmps27
  go_wp2_with fail
  go_ret
  exact ⟨rfl, rfl⟩
set_option maxRecDepth 100000 in
theorem Has_calls (p b : Nat) (es : List Ent) (k : ByteArray) (w : World) (hS : SetAt w p b es) (hF : Facts es) (hk : k.size ≤ maxLen) :
    Calls Tryz.prog 27 #[.pointer (some ⟨p, 0, none⟩), .string k] w fun e W' => e = .returned (.bool (hasE es k.data.toList)) ∧ Below w.heap.size w W' := by
  obtain ⟨⟨v, t⟩, hf⟩ := look_fact hF k.data.toList
  have hc := hS.cell
  have hl := hS.look_ok k hk
  rw [hf] at hl
  clear hf hS hF hk
  generalize hasE es k.data.toList = c at *
  have hl' : (Instr.lookup 60 (.map (some b)) (.string k) true).run Tryz.prog w = .ok (.tuple #[.agg (factC v t), .bool c]) w := hl
  clear hl
  have hone := factC_one v t
  go_enter Tryz.func27, Tryz.ntmps27
  go_wp2_with (refine wpList_store_row rfl 40 _ _ rfl w.heap.size (factC v t) rfl rfl 40 _ (heap_new w _) (hiC _ _) rfl hone ?_)
  go_ret
  exact ⟨rfl, below_setRow' ((Below.refl _ _).alloc (Nat.le_refl _) _) _ _ (Nat.le_refl _)⟩
theorem has_look {es : List Ent} {k : List UInt8} (h : hasE es k = false) : lookE es k = valF zeroA := by
  unfold hasE at h
  unfold lookE
  cases hg : getE es k with
  | none => rfl
  | some x => rw [hg] at h; cases h
theorem has_get {es : List Ent} {k : List UInt8} (h : hasE es k = true) : getE es k = some (lookE es k) := by
  unfold hasE at h
  unfold lookE
  cases hg : getE es k with
  | none => rw [hg] at h; cases h
  | some x => rfl
set_option maxRecDepth 100000 in
theorem Get_none (P : Value) (k : ByteArray) (w : World) (hH : ∀ W, Below w.heap.size w W → Calls Tryz.prog 27 #[P, .string k] W fun e W' => e = .returned (.bool false) ∧ Below W.heap.size W W') :
    Calls Tryz.prog 25 #[P, .string k] w fun e W' => e = .returned (.tuple #[valF zeroA, .bool false]) ∧ Below w.heap.size w W' := by
  have HH := Lib.hid hH
  clear hH
  go_enter Tryz.func25, Tryz.ntmps25
  go_upto_region 1 with (fail)
  obtain ⟨W0, hW0, f0, b0⟩ := one_row w (factC (fun _ => 0) ⟨#[]⟩) 40
  rw [hW0]
  clear hW0
  have F0 := Lib.hid f0
  have hc := HH.out W0 b0
  have B0 := Lib.hid b0
  clear f0 b0
  go_wp2_with fail
  refine hc.mono ?_
  rintro e W1 ⟨rfl, b1⟩
  have F1 := Lib.hid (Hl.row b1 F0.out)
  have B1 := Lib.hid (B0.out.trans (Below.mono b1 B0.out.size))
  clear hc b1 F0 B0
  have hone := factC_one (fun _ => 0) ⟨#[]⟩
  go_wp2_with (refine wpList_store_row rfl 40 _ _ rfl w.heap.size (factC (fun _ => 0) ⟨#[]⟩) rfl rfl 40 _ F1.out (hiC _ _) rfl hone ?_)
  refine bodyPost_ret (v := .tuple #[.agg (factC (fun _ => 0) ⟨#[]⟩), .bool false]) ?_ rfl ?_
  · exact results_fact_tmp rfl _ _ w.heap.size _ _ _ rfl (setRow_heap _ w.heap.size _ _ 40 (0, 0) F1.out) rfl
  · exact ⟨rfl, below_setRow' B1.out _ _ (by omega)⟩
set_option maxRecDepth 100000 in
theorem Get_some (p b : Nat) (es : List Ent) (k : ByteArray) (w : World) (v : Nat → Int) (t : ByteArray) (hS : SetAt w p b es) (hF : Facts es) (hk : k.size ≤ maxLen) (hh : hasE es k.data.toList = true) (hv : lookE es k.data.toList = valF (v, t)) (ht : t.size ≤ 281474976710656) :
    Calls Tryz.prog 25 #[.pointer (some ⟨p, 0, none⟩), .string k] w fun e W' => e = .returned (.tuple #[.agg (factC v t), .bool true]) ∧ Below w.heap.size w W' := by
  have HH := Lib.hid (fun (W : World) (h : Below w.heap.size w W) => Has_calls p b es k W (hS.below h) hF hk)
  rw [hh] at HH
  have HS := Lib.hid (fun (W : World) (h : Below w.heap.size w W) => (hS.below h).cell)
  have HL := Lib.hid (fun (W : World) (h : Below w.heap.size w W) => (hS.below h).look k hk)
  rw [hv] at HL
  have HA := Lib.hid (fun W => apart_calls v t W ht)
  clear hS hF hk hh hv ht
  go_enter Tryz.func25, Tryz.ntmps25
  go_upto_region 1 with (fail)
  obtain ⟨W0, hW0, f0, b0⟩ := one_row w (factC (fun _ => 0) ⟨#[]⟩) 40
  rw [hW0]
  clear hW0
  have F0 := Lib.hid f0
  have B0 := Lib.hid b0
  clear f0 b0
  go_wp2_with fail
  refine (HH.out W0 B0.out).mono ?_
  rintro e W1 ⟨rfl, b1⟩
  have F1 := Lib.hid (Hl.row b1 F0.out)
  have B1 := Lib.hid (B0.out.trans (Below.mono b1 B0.out.size))
  have hc := HS.out W1 B1.out
  have hl : (Instr.lookup 60 (.map (some b)) (.string k) false).run Tryz.prog W1 = .ok (.agg (factC v t)) W1 := HL.out W1 B1.out
  clear b1 F0 B0
  go_wp2_with fail
  refine (HA.out W1).mono ?_
  rintro e W2 ⟨rfl, b2⟩
  have F2 := Lib.hid (Hl.row b2 F1.out)
  have B2 := Lib.hid (B1.out.trans (Below.mono b2 B1.out.size))
  clear b2 F1 B1 hc hl
  have hone := factC_one v t
  go_wp2_with (refine wpList_store_row rfl 40 _ _ rfl w.heap.size (factC v t) rfl rfl 40 _ F2.out (hiC _ _) rfl hone ?_)
  refine bodyPost_ret (v := .tuple #[.agg (factC v t), .bool true]) ?_ rfl ?_
  · exact results_fact_tmp rfl _ _ w.heap.size _ _ _ rfl (setRow_heap _ w.heap.size _ _ 40 (0, 0) F2.out) rfl
  · exact ⟨rfl, below_setRow' B2.out _ _ (by omega)⟩
theorem good_text {f : Fa} (h : okA f = true) : f.2.size ≤ 65536 := okT_size h
theorem Get_calls (p b : Nat) (es : List Ent) (k : ByteArray) (w : World) (hS : SetAt w p b es) (hF : Facts es) (hk : k.size ≤ maxLen) :
    Calls Tryz.prog 25 #[.pointer (some ⟨p, 0, none⟩), .string k] w fun e W' => e = .returned (.tuple #[lookE es k.data.toList, .bool (hasE es k.data.toList)]) ∧ Below w.heap.size w W' := by
  cases hh : hasE es k.data.toList with
  | false =>
    rw [has_look hh]
    refine Get_none _ k w (fun W hW => ?_)
    have := Has_calls p b es k W (hS.below hW) hF hk
    rw [hh] at this
    exact this
  | true =>
    obtain ⟨⟨v, t⟩, ho, he⟩ := hF _ (getE_mem (has_get hh))
    have hv : lookE es k.data.toList = valF (v, t) := congrArg Prod.snd he
    rw [hv]
    have h1 : t.size ≤ 65536 := good_text ho
    exact Get_some p b es k w v t hS hF hk hh hv (by omega)
theorem Get_nil (k : ByteArray) (w : World) : Calls Tryz.prog 25 #[.pointer none, .string k] w fun e W' => e = .returned (.tuple #[valF zeroA, .bool false]) ∧ Below w.heap.size w W' :=
  Get_none _ k w (fun W _ => (Has_nil k W).mono fun _ _ ⟨h1, h2⟩ => ⟨h1, h2 ▸ Below.refl _ _⟩)
set_option maxRecDepth 100000 in
theorem Len_nil (w : World) : Calls Tryz.prog 22 #[.pointer none] w fun e W' => e = .returned (.int .i64 0) ∧ w = W' := by
  go_enter Tryz.func22, Tryz.ntmps22
  go_wp2_with fail
  go_ret
  exact ⟨rfl, rfl⟩
set_option maxRecDepth 100000 in
theorem Len_calls (p b : Nat) (es : List Ent) (w : World) (hS : SetAt w p b es) :
    Calls Tryz.prog 22 #[.pointer (some ⟨p, 0, none⟩)] w fun e W' => e = .returned (.int .i64 (es.length : Int)) ∧ w = W' := by
  have hc := hS.cell
  have hl := fun ty => hS.2.len Tryz.underlying60 ty
  rw [size_dS] at hl
  clear hS
  go_enter Tryz.func22, Tryz.ntmps22
  go_wp2_with fail
  go_ret
  exact ⟨rfl, rfl⟩

/-! ### put -/
theorem grown_after {w W1 W2 : World} {row : Option Nat} (hb : Below w.heap.size w W1) (hg : W1.grownBy W2 row) : w.grownBy W2 row :=
  ⟨hg.os.trans hb.os, hg.tape.trans hb.tape, hg.output.trans hb.output, Nat.le_trans hb.size hg.size, fun k hk hr => (hg.block k (Nat.lt_of_lt_of_le hk hb.size) hr).trans (hb.block k hk)⟩
theorem SetAt.store {w : World} {p b : Nat} {es : List Ent} (h : SetAt w p b es) (ha : Asc es) (hn : es.length < maxLen) (k : ByteArray) (hk : k.size ≤ maxLen) (x : Value) :
    ∃ w', (Instr.mapUpdate 60 (.map (some b)) (.string k) x).run Tryz.prog w = .ok () w' ∧ SetAt w' p b (putE k.data.toList x es) ∧ w.grownBy w' (some b) := by
  obtain ⟨w', hrun, hown, hg⟩ := h.2.update (string_keyed Tryz.underlying9) Tryz.underlying60 hn (key_lit hk) (show valR x = some (.held x, []) from rfl)
  rw [put_dS ha] at hown
  exact ⟨w', hrun, SetAt.of (grown_row hg h.1 (fun e => h.ne (Option.some.inj e).symm)) hown, hg⟩
set_option maxRecDepth 100000 in
theorem put_calls (p b : Nat) (es : List Ent) (k : ByteArray) (v : Nat → Int) (t : ByteArray) (w : World) (hS : SetAt w p b es) (ha : Asc es) (hn : es.length < maxLen) (hk : k.size ≤ 281474976710656) (hk2 : k.size ≤ maxLen) (ht : t.size ≤ 281474976710656) :
    Calls Tryz.prog 31 #[.pointer (some ⟨p, 0, none⟩), .string k, .agg (factC v t)] w fun e W' => e = .returned (.tuple #[]) ∧ SetAt W' p b (putE k.data.toList (.agg (factC v t)) es) ∧ w.grownBy W' (some b) := by
  have HA := Lib.hid (fun W => apart_calls v t W ht)
  have HC := Lib.hid (fun W => Clone_calls k W hk)
  have HS := Lib.hid (fun (W : World) (h : Below w.heap.size w W) => (hS.below h).store ha hn k hk2 (.agg (factC v t)))
  have Hb := Lib.hid hS.ltb
  go_enter Tryz.func31, Tryz.ntmps31
  go_upto_region 1 with (fail)
  obtain ⟨W0, hW0, f0, b0⟩ := one_row w (factC v t) 40
  rw [hW0]
  clear hW0
  have F0 := Lib.hid f0
  have hc : ∀ x : Wl W0, x.1.cell? ⟨p, 0, none⟩ = some (.map (some b)) := fun x => (hS.below (b0.trans (Below.mono x.2 b0.size))).cell
  have B0 := Lib.hid b0
  clear f0 b0 hS ha hn hk hk2 ht
  refine wp_region_hl_tail 8 W0 (Hl.refl _) (by kernel_rfl) (by kernel_rfl) ?_
  simp only [List.take_succ_cons, List.take_zero]
  repeat (first
    | go_big_quiet_skip
    | (go_big_quiet_want; refine quiet_load_row _ rfl _ rfl _ _ F0.out ?_; simp only [Act.put, List.setIfInBounds_toArray, List.set_cons_zero, List.set_cons_succ]; go_big_quiet_on)
    | (go_big_quiet_want; go_big_quiet_op; first
      | go_big_quiet_on
      | (apply Exists.intro; (with_reducible refine ⟨fun _ => hl_call (HC.out _), ?_⟩); go_big_quiet_on)
      | (apply Exists.intro; (with_reducible refine ⟨fun _ => hl_call (HA.out _), ?_⟩); go_big_quiet_on)))
  refine wpQuiet_nil ?_
  intro W1 h1
  simp only [List.drop_succ_cons, List.drop_zero]
  have B1 := B0.out.trans (Below.mono h1 B0.out.size)
  obtain ⟨W2, hrun, hS2, hg⟩ := HS.out W1 B1
  clear h1
  go_wp2_with fail
  go_end0
  exact ⟨rfl, hS2, grown_after B1 hg⟩
end Go.Proofs.YtnndnjnpkjpkpaaGreatDoor
namespace Go.Proofs.YtnndnjnpkjpkpaaGreatDoor
open Go.RowKit Go.Maps

theorem grown_but {a c : World} (h : a.grownBy c none) (row : Option Nat) : a.grownBy c row := ⟨h.os, h.tape, h.output, h.size, fun i hi _ => h.block i hi (by simp)⟩
/-- Whether a fact is new, and the error. -/
def plusB (es : List Ent) (f : Fa) : Bool := okA f && !hasE es (keyF f) && decide (es.length < 4000)
def plusN (es : List Ent) (f : Fa) : Int := if okA f = true then if hasE es (keyF f) = true then 0 else if es.length < 4000 then 0 else 60 else 60

set_option maxRecDepth 100000 in
theorem Add_nil (f : Fa) (w : World) : Calls Tryz.prog 8 #[.pointer none, .agg (factC f.1 f.2)] w fun e W' => e = .returned (.tuple #[.bool false, .int .i64 1]) ∧ Below w.heap.size w W' := by
  obtain ⟨v, t⟩ := f
  go_enter Tryz.func8, Tryz.ntmps8
  go_wp2_with fail
  go_ret2
  exact ⟨rfl, (Below.refl _ _).alloc (Nat.le_refl _) _⟩

set_option maxRecDepth 100000 in
theorem Add_bad (p b : Nat) (es : List Ent) (v : Nat → Int) (t : ByteArray) (w : World) (hK : Konst w) (hS : SetAt w p b es) (ho : okT v t = false) :
    Calls Tryz.prog 8 #[.pointer (some ⟨p, 0, none⟩), .agg (factC v t)] w fun e W' => e = .returned (.tuple #[.bool false, .int .i64 60]) ∧ SetAt W' p b es ∧ w.grownBy W' (some b) := by
  have HS := Lib.hid (fun (W : World) (h : Below w.heap.size w W) => (⟨hS.below h, grown_but (grown_of_below h) (some b)⟩ : SetAt W p b es ∧ w.grownBy W (some b)))
  have e1 : idF v t = [] := by unfold idF; rw [ho]; rfl
  have e2 : errF v t = 50 := by unfold errF; rw [ho]; rfl
  have HI := Lib.hid (fun (W : World) (h : Below w.heap.size w W) => ID_calls v t W (hK.keep h))
  rw [e1, e2] at HI
  clear hS e1 e2 ho hK
  go_enter Tryz.func8, Tryz.ntmps8
  go_upto_region 1 with (fail)
  obtain ⟨W0, hW0, f0, b0⟩ := one_row w (factC v t) 40
  rw [hW0]
  clear hW0
  have F0 := Lib.hid f0
  have B0 := Lib.hid b0
  clear f0 b0
  go_wp2_with (refine wpList_load_row rfl 40 _ rfl w.heap.size rfl _ _ _ _ F0.out Tryz.underlying40 rfl (hiC _ _) ?_)
  refine (HI.out W0 B0.out).mono ?_
  rintro e W1 ⟨rfl, b1⟩
  go_wp2_with fail
  go_ret2
  exact ⟨rfl, HS.out W1 (B0.out.trans (Below.mono b1 B0.out.size))⟩

theorem key_bytes (f : Fa) : (⟨(keyF f).toArray⟩ : ByteArray).data.toList = keyF f := by simp
set_option maxRecDepth 100000 in
theorem Add_has (p b : Nat) (es : List Ent) (v : Nat → Int) (t : ByteArray) (w : World) (hK : Konst w) (hS : SetAt w p b es) (hF : Facts es) (ho : okT v t = true) (hh : hasE es (keyF (v, t)) = true) :
    Calls Tryz.prog 8 #[.pointer (some ⟨p, 0, none⟩), .agg (factC v t)] w fun e W' => e = .returned (.tuple #[.bool false, .int .i64 0]) ∧ SetAt W' p b es ∧ w.grownBy W' (some b) := by
  have HS := Lib.hid (fun (W : World) (h : Below w.heap.size w W) => (⟨hS.below h, grown_but (grown_of_below h) (some b)⟩ : SetAt W p b es ∧ w.grownBy W (some b)))
  have e1 : idF v t = keyF (v, t) := by unfold idF; rw [ho]; rfl
  have e2 : errF v t = 0 := by unfold errF; rw [ho]; rfl
  have HI := Lib.hid (fun (W : World) (h : Below w.heap.size w W) => ID_calls v t W (hK.keep h))
  rw [e1, e2] at HI
  have hlen : (⟨(keyF (v, t)).toArray⟩ : ByteArray).size ≤ maxLen := by show (keyF (v, t)).length ≤ _; rw [keyF_length]; decide
  have HH := Lib.hid (fun (W : World) (h : Below w.heap.size w W) => Has_calls p b es ⟨(keyF (v, t)).toArray⟩ W (hS.below h) hF hlen)
  rw [key_bytes, hh] at HH
  clear hS e1 e2 ho hK hF hh hlen
  generalize (⟨(keyF (v, t)).toArray⟩ : ByteArray) = k at *
  go_enter Tryz.func8, Tryz.ntmps8
  go_upto_region 1 with (fail)
  obtain ⟨W0, hW0, f0, b0⟩ := one_row w (factC v t) 40
  rw [hW0]
  clear hW0
  have F0 := Lib.hid f0
  have B0 := Lib.hid b0
  clear f0 b0
  go_wp2_with (refine wpList_load_row rfl 40 _ rfl w.heap.size rfl _ _ _ _ F0.out Tryz.underlying40 rfl (hiC _ _) ?_)
  refine (HI.out W0 B0.out).mono ?_
  rintro e W1 ⟨rfl, b1⟩
  have B1 := Lib.hid (B0.out.trans (Below.mono b1 B0.out.size))
  clear b1
  go_wp2_with fail
  refine (HH.out W1 B1.out).mono ?_
  rintro e W2 ⟨rfl, b2⟩
  have B2 := Lib.hid (B1.out.trans (Below.mono b2 B1.out.size))
  clear b2
  go_wp2_with fail
  go_ret2
  exact ⟨rfl, HS.out W2 B2.out⟩
set_option maxRecDepth 100000 in
theorem Add_full (p b : Nat) (es : List Ent) (v : Nat → Int) (t : ByteArray) (w : World) (hK : Konst w) (hS : SetAt w p b es) (hF : Facts es) (ho : okT v t = true) (hh : hasE es (keyF (v, t)) = false) (hl : 4000 ≤ es.length) (hl2 : es.length ≤ 1000000) :
    Calls Tryz.prog 8 #[.pointer (some ⟨p, 0, none⟩), .agg (factC v t)] w fun e W' => e = .returned (.tuple #[.bool false, .int .i64 60]) ∧ SetAt W' p b es ∧ w.grownBy W' (some b) := by
  have HS := Lib.hid (fun (W : World) (h : Below w.heap.size w W) => (⟨hS.below h, grown_but (grown_of_below h) (some b)⟩ : SetAt W p b es ∧ w.grownBy W (some b)))
  have e1 : idF v t = keyF (v, t) := by unfold idF; rw [ho]; rfl
  have e2 : errF v t = 0 := by unfold errF; rw [ho]; rfl
  have HI := Lib.hid (fun (W : World) (h : Below w.heap.size w W) => ID_calls v t W (hK.keep h))
  rw [e1, e2] at HI
  have hlen : (⟨(keyF (v, t)).toArray⟩ : ByteArray).size ≤ maxLen := by show (keyF (v, t)).length ≤ _; rw [keyF_length]; decide
  have HH := Lib.hid (fun (W : World) (h : Below w.heap.size w W) => Has_calls p b es ⟨(keyF (v, t)).toArray⟩ W (hS.below h) hF hlen)
  rw [key_bytes, hh] at HH
  have HL := Lib.hid (fun (W : World) (h : Below w.heap.size w W) => Len_calls p b es W (hS.below h))
  clear hS e1 e2 ho hK hF hh hlen
  generalize (⟨(keyF (v, t)).toArray⟩ : ByteArray) = k at *
  generalize hn : es.length = n at *
  have k1 : (4000 : Int) ≤ (n : Int) := by omega
  clear hn hl
  go_enter Tryz.func8, Tryz.ntmps8
  go_upto_region 1 with (fail)
  obtain ⟨W0, hW0, f0, b0⟩ := one_row w (factC v t) 40
  rw [hW0]
  clear hW0
  have F0 := Lib.hid f0
  have B0 := Lib.hid b0
  clear f0 b0
  go_wp2_with (refine wpList_load_row rfl 40 _ rfl w.heap.size rfl _ _ _ _ F0.out Tryz.underlying40 rfl (hiC _ _) ?_)
  refine (HI.out W0 B0.out).mono ?_
  rintro e W1 ⟨rfl, b1⟩
  have B1 := Lib.hid (B0.out.trans (Below.mono b1 B0.out.size))
  clear b1
  go_wp2_with fail
  refine (HH.out W1 B1.out).mono ?_
  rintro e W2 ⟨rfl, b2⟩
  have B2 := Lib.hid (B1.out.trans (Below.mono b2 B1.out.size))
  clear b2
  go_wp2_with fail
  refine (HL.out W2 B2.out).mono ?_
  rintro e W3 ⟨rfl, rfl⟩
  go_wp2_with fail
  go_ret2
  exact ⟨rfl, HS.out _ B2.out⟩
set_option maxRecDepth 100000 in
theorem Add_new (p b : Nat) (es : List Ent) (v : Nat → Int) (t : ByteArray) (w : World) (hK : Konst w) (hS : SetAt w p b es) (ha : Asc es) (hF : Facts es) (ho : okT v t = true) (hh : hasE es (keyF (v, t)) = false) (hl : es.length < 4000) :
    Calls Tryz.prog 8 #[.pointer (some ⟨p, 0, none⟩), .agg (factC v t)] w fun e W' => e = .returned (.tuple #[.bool true, .int .i64 0]) ∧ SetAt W' p b (putE (keyF (v, t)) (valF (v, t)) es) ∧ w.grownBy W' (some b) := by
  have e1 : idF v t = keyF (v, t) := by unfold idF; rw [ho]; rfl
  have e2 : errF v t = 0 := by unfold errF; rw [ho]; rfl
  have HI := Lib.hid (fun (W : World) (h : Below w.heap.size w W) => ID_calls v t W (hK.keep h))
  rw [e1, e2] at HI
  have hlen : (⟨(keyF (v, t)).toArray⟩ : ByteArray).size = 32 := keyF_length (v, t)
  have hlen1 : (⟨(keyF (v, t)).toArray⟩ : ByteArray).size ≤ maxLen := by rw [hlen]; decide
  have HH := Lib.hid (fun (W : World) (h : Below w.heap.size w W) => Has_calls p b es ⟨(keyF (v, t)).toArray⟩ W (hS.below h) hF hlen1)
  rw [key_bytes, hh] at HH
  have HL := Lib.hid (fun (W : World) (h : Below w.heap.size w W) => Len_calls p b es W (hS.below h))
  have htx : t.size ≤ 65536 := okT_size ho
  have HP := Lib.hid (fun (W : World) (h : Below w.heap.size w W) => put_calls p b es ⟨(keyF (v, t)).toArray⟩ v t W (hS.below h) ha (by unfold maxLen; omega) (by rw [hlen]; decide) hlen1 (by omega))
  rw [key_bytes] at HP
  have e3 : valF (v, t) = .agg (factC v t) := rfl
  rw [e3]
  clear hS e1 e2 e3 ho hK hF ha hh hlen hlen1 htx
  generalize (⟨(keyF (v, t)).toArray⟩ : ByteArray) = k at *
  generalize putE (keyF (v, t)) (.agg (factC v t)) es = es' at *
  have k1 : ((es.length : Nat) : Int) < 4000 := by omega
  generalize es.length = n at *
  clear hl
  go_enter Tryz.func8, Tryz.ntmps8
  go_upto_region 1 with (fail)
  obtain ⟨W0, hW0, f0, b0⟩ := one_row w (factC v t) 40
  rw [hW0]
  clear hW0
  have F0 := Lib.hid f0
  have B0 := Lib.hid b0
  clear f0 b0
  go_wp2_with (refine wpList_load_row rfl 40 _ rfl w.heap.size rfl _ _ _ _ F0.out Tryz.underlying40 rfl (hiC _ _) ?_)
  refine (HI.out W0 B0.out).mono ?_
  rintro e W1 ⟨rfl, b1⟩
  have F1 := Lib.hid (Hl.row b1 F0.out)
  have B1 := Lib.hid (B0.out.trans (Below.mono b1 B0.out.size))
  clear b1 F0
  go_wp2_with fail
  refine (HH.out W1 B1.out).mono ?_
  rintro e W2 ⟨rfl, b2⟩
  have F2 := Lib.hid (Hl.row b2 F1.out)
  have B2 := Lib.hid (B1.out.trans (Below.mono b2 B1.out.size))
  clear b2 F1
  go_wp2_with fail
  refine (HL.out W2 B2.out).mono ?_
  rintro e W3 ⟨rfl, rfl⟩
  go_wp2_with (refine wpList_load_row rfl 40 _ rfl w.heap.size rfl _ _ _ _ F2.out Tryz.underlying40 rfl (hiC _ _) ?_)
  refine (HP.out _ B2.out).mono ?_
  rintro e W4 ⟨rfl, hS4, hg⟩
  go_wp2_with fail
  go_ret2
  exact ⟨rfl, hS4, grown_after B2.out hg⟩
theorem Add_calls (p b : Nat) (es : List Ent) (f : Fa) (w : World) (hK : Konst w) (hS : SetAt w p b es) (hG : Good es) :
    Calls Tryz.prog 8 #[.pointer (some ⟨p, 0, none⟩), .agg (factC f.1 f.2)] w fun e W' => e = .returned (.tuple #[.bool (plusB es f), .int .i64 (plusN es f)]) ∧ SetAt W' p b (plusE es f) ∧ w.grownBy W' (some b) := by
  obtain ⟨v, t⟩ := f
  unfold plusB plusN plusE
  cases ho : okA (v, t) with
  | false => simpa using Add_bad p b es v t w hK hS ho
  | true =>
    cases hh : hasE es (keyF (v, t)) with
    | true => simpa using Add_has p b es v t w hK hS hG.2.1 ho hh
    | false =>
      by_cases hl : es.length < 4000
      · simpa [hl] using Add_new p b es v t w hK hS hG.1 hG.2.1 ho hh hl
      · have := hG.2.2
        simpa [hl] using Add_full p b es v t w hK hS hG.2.1 ho hh (by omega) (by omega)
end Go.Proofs.YtnndnjnpkjpkpaaGreatDoor
