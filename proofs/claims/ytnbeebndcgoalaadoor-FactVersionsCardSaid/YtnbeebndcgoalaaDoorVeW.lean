/- The walk of FactVersions. Conditions: the table of constants reads as the program lays it; the variable errForm holds an error of its own. -/
import Derived.Test.YtnbeebndcgoalaaDoorFHlp
namespace Go.Proofs.YtnbeebndcgoalaaDoor
open Go.RowKit
/-- The fact with another version. -/
def verV (v : Nat → Int) (x : Int) : Nat → Int := fun i => if i = 2 then x else v i
theorem ver_cell (W : World) (b : Nat) (v : Nat → Int) (x : Int) (t : ByteArray) (h : W.heap[b]? = some (.cells (factC v t) 23 (0, 0))) : (W.setCell ⟨b, 2, none⟩ (.int .i64 x)).heap[b]? = some (.cells (factC (verV v x) t) 23 (0, 0)) := by
  rw [heap_setCell_same _ _ _ _ _ _ h]; rfl
theorem msr_ver (v : Nat → Int) (x n : Int) (i : Nat) : msr (verV v x) n i = msr v n i := by
  unfold msr verV
  split
  · rfl
  · split
    · rfl
    · rw [if_neg (by omega)]
theorem InR_ver (v : Nat → Int) (x n : Int) (m : Nat) (h : InR v n m) : InR (verV v x) n m := by
  intro i hi
  rw [msr_ver]
  exact h i hi
theorem ok_ver (v : Nat → Int) (t : ByteArray) (x : Int) (h : okT v t = true) (h1 : 1 ≤ x) (h2 : x ≤ 1000) : okT (verV v x) t = true := by
  obtain ⟨a, -, b, c⟩ := of_decide_eq_true h
  exact decide_eq_true ⟨a, ⟨h1, h2⟩, InR_ver v x _ 18 b, c⟩
theorem bad_ver (v : Nat → Int) (t : ByteArray) (x : Int) (h : x < 1 ∨ 1000 < x) : okT (verV v x) t = false :=
  decide_eq_false fun ⟨_, ⟨a, b⟩, _⟩ => by
    have ha : 1 ≤ x := a
    have hb : x ≤ 1000 := b
    omega
theorem ky_ver (v : Nat → Int) (x y : Int) : kyB (verV v x) (verV v y) = true := decide_eq_true ⟨rfl, rfl⟩
theorem ky_ver0 (v : Nat → Int) (x : Int) : kyB (verV v x) v = true := decide_eq_true ⟨rfl, rfl⟩
theorem pv_ver (v : Nat → Int) (t : ByteArray) (x y : Int) (h : okT v t = true) (h1 : 1 ≤ x) (h2 : x ≤ 1000) (h3 : 1 ≤ y) (h4 : y ≤ 1000) : pvB (verV v x) t (verV v y) t = decide (y < x) := by
  unfold pvB
  rw [ok_ver v t x h h1 h2, ok_ver v t y h h3 h4, ky_ver, Bool.true_and, Bool.true_and, Bool.true_and]
  have e1 : verV v x 2 = x := rfl
  have e2 : verV v y 2 = y := rfl
  rw [e1, e2]
  by_cases hxy : x = y
  · subst hxy; rw [bl_irr, Bool.and_false, Bool.or_false]
  · rw [decide_eq_false hxy, Bool.false_and, Bool.or_false]

set_option maxRecDepth 100000 in
set_option maxHeartbeats 4000000 in
theorem vers_bad (v : Nat → Int) (t : ByteArray) (n m : Int) (w : World) (a : Addr) (hK : Konst w) (hE : ErrK a w) (ht : t.size ≤ 9223372036854775807) (hok : okT v (cutT t) = false) :
    Calls Tryd.prog 11 #[.agg (factC v t), .int .i64 n, .int .i64 m] w fun e W' => e = .returned (.bool true) ∧ Below w.heap.size w W' := by
  have hgE : 0 < w.heap.size := World.block_lt_of_cell? w _ hE
  have HK := Lib.hid hK
  have HE := Lib.hid hE
  clear hK hE
  have HS := Lib.hid (fun W (h : Konst W) (h' : ErrK a W) => sane_calls a W h h')
  have HC := Lib.hid (fun W => cut_calls v t W ht)
  have HV := Lib.hid (fun W => Valid_eq v (cutT t) false hok W)
  clear hok
  generalize cutT t = ct at *
  go_enter Tryd.func11, Tryd.ntmps11
  go_upto_region 1 with (fail)
  obtain ⟨W0, hW0, f0, b0⟩ := one_row w (factC v t) 23
  rw [hW0]
  clear hW0
  have P0 := Lib.hid f0
  have B0 := Lib.hid b0
  clear f0 b0
  go_wp2_with (first
      | (refine wpList_load_fact rfl _ rfl w.heap.size rfl v t P0.out ?_))
  refine (HS.out _ (HK.out.keep B0.out) (HE.out.keep B0.out hgE)).mono ?_
  rintro e W1 ⟨rfl, b1⟩
  have P1 := Lib.hid (Hl.row b1 P0.out)
  have B1 := Lib.hid (B0.out.trans (Below.mono b1 B0.out.size))
  clear P0 B0
  clear b1
  go_wp2_with (first
      | (refine wpList_load_fact rfl _ rfl w.heap.size rfl v t P1.out ?_))
  refine (HC.out _).mono ?_
  rintro e W2 ⟨rfl, b2⟩
  have P2 := Lib.hid (Hl.row b2 P1.out)
  have B2 := Lib.hid (B1.out.trans (Below.mono b2 B1.out.size))
  clear P1 B1
  clear b2
  have honeP := factC_one v ct
  go_upto_region 3 with (first
      | (refine wpList_store_row rfl 23 _ _ rfl w.heap.size (factC v ct) rfl rfl 23 _ P2.out (hiC _ _) rfl honeP ?_)
      | (refine wpList_load_fact rfl _ rfl w.heap.size rfl v t P2.out ?_))
  obtain ⟨W3, hW3, P3, B3⟩ : ∃ W3, W2.setRow w.heap.size (factC v ct) = W3 ∧ Hid (W3.heap[w.heap.size]? = some (.cells (factC v ct) 23 (0, 0))) ∧ Hid (Below w.heap.size w W3) :=
    ⟨_, rfl, Lib.hid (setRow_heap _ _ _ _ _ _ P2.out), Lib.hid (below_setRow' B2.out _ _ (Nat.le_refl _))⟩
  rw [hW3]
  clear hW3 P2 B2
  go_wp2_with (first
      | (refine wpList_load_fact rfl _ rfl w.heap.size rfl v ct P3.out ?_))
  refine (HV.out _).mono ?_
  rintro e W4 ⟨rfl, b4⟩
  have P4 := Lib.hid (Hl.row b4 P3.out)
  have B4 := Lib.hid (B3.out.trans (Below.mono b4 B3.out.size))
  clear P3 B3
  clear b4
  go_wp2_with (first
      | (refine wpList_load_fact rfl _ rfl w.heap.size rfl v ct P4.out ?_))
  go_ret
  exact ⟨rfl, B4.out⟩

set_option maxRecDepth 100000 in
set_option maxHeartbeats 8000000 in
theorem vers_ok (v : Nat → Int) (t : ByteArray) (n m : Int) (w : World) (a : Addr) (hK : Konst w) (hE : ErrK a w) (ht : t.size ≤ 9223372036854775807) (hn0 : -9223372036854775808 ≤ n) (hn1 : n ≤ 9223372036854775807) (hm0 : -9223372036854775808 ≤ m) (hm1 : m ≤ 9223372036854775807) (hok : okT v (cutT t) = true) :
    Calls Tryd.prog 11 #[.agg (factC v t), .int .i64 n, .int .i64 m] w fun e W' => e = .returned (.bool true) ∧ Below w.heap.size w W' := by
  have hgE : 0 < w.heap.size := World.block_lt_of_cell? w _ hE
  have HK := Lib.hid hK
  have HE := Lib.hid hE
  clear hK hE
  have HS := Lib.hid (fun W (h : Konst W) (h' : ErrK a W) => sane_calls a W h h')
  have HC := Lib.hid (fun W => cut_calls v t W ht)
  have hpn := pickF_lt n 1000 (by omega)
  have hpm := pickF_lt m 1000 (by omega)
  have PN := Lib.hid (fun W => pick_calls n 1000 W hn0 hn1 (by omega) (by omega))
  have PM := Lib.hid (fun W => pick_calls m 1000 W hm0 hm1 (by omega) (by omega))
  generalize pickF n 1000 = x at *
  generalize pickF m 1000 = y at *
  have HV := Lib.hid (fun W => Valid_eq v (cutT t) true hok W)
  have HA := Lib.hid (fun W => Valid_eq (verV v (1 + x)) (cutT t) true (ok_ver v _ _ hok (by omega) (by omega)) W)
  have HN := Lib.hid (fun W => Valid_eq (verV v 0) (cutT t) false (bad_ver v _ 0 (by omega)) W)
  have HL := Lib.hid (fun W => Valid_eq (verV v 1001) (cutT t) false (bad_ver v _ 1001 (by omega)) W)
  have HQ : Hid (∀ W, Calls Tryd.prog 19 #[.agg (factC (verV v (1 + x)) (cutT t)), .agg (factC (verV v (1 + y)) (cutT t))] W fun e W' => e = .returned (.bool (decide (1 + y < 1 + x))) ∧ Below W.heap.size W W') := Lib.hid (fun W => by
    have h := Prevails_calls (verV v (1 + x)) (verV v (1 + y)) (cutT t) (cutT t) W
    rw [pv_ver v _ _ _ hok (by omega) (by omega) (by omega) (by omega)] at h
    exact h)
  have KA := Lib.hid (fun W => Key_calls (verV v (1 + x)) (cutT t) W)
  have KF := Lib.hid (fun W => Key_calls v (cutT t) W)
  have hq := fun W => key_eql (verV v (1 + x)) v true (ky_ver0 v _) W
  have CA := Lib.hid (show verV v (1 + x) 2 = 1 + x from rfl)
  have CB := Lib.hid (show verV v (1 + y) 2 = 1 + y from rfl)
  have va := Lib.hid (fun W b => ver_cell W b v (1 + x) (cutT t))
  have vb := Lib.hid (fun W b => ver_cell W b v (1 + y) (cutT t))
  have vn := Lib.hid (fun W b => ver_cell W b v 0 (cutT t))
  have vl := Lib.hid (fun W b => ver_cell W b v 1001 (cutT t))
  clear hok
  generalize verV v (1 + x) = fa at *
  generalize verV v (1 + y) = fb at *
  generalize verV v 0 = fn at *
  generalize verV v 1001 = fl at *
  generalize cutT t = ct at *
  go_enter Tryd.func11, Tryd.ntmps11
  go_upto_region 1 with (fail)
  obtain ⟨W0, hW0, f0, b0⟩ := one_row w (factC v t) 23
  rw [hW0]
  clear hW0
  have P0 := Lib.hid f0
  have B0 := Lib.hid b0
  clear f0 b0
  go_wp2_with (first
      | (refine wpList_load_fact rfl _ rfl w.heap.size rfl v t P0.out ?_))
  refine (HS.out _ (HK.out.keep B0.out) (HE.out.keep B0.out hgE)).mono ?_
  rintro e W1 ⟨rfl, b1⟩
  have P1 := Lib.hid (Hl.row b1 P0.out)
  have B1 := Lib.hid (B0.out.trans (Below.mono b1 B0.out.size))
  clear P0 B0
  clear b1
  go_wp2_with (first
      | (refine wpList_load_fact rfl _ rfl w.heap.size rfl v t P1.out ?_))
  refine (HC.out _).mono ?_
  rintro e W2 ⟨rfl, b2⟩
  have P2 := Lib.hid (Hl.row b2 P1.out)
  have B2 := Lib.hid (B1.out.trans (Below.mono b2 B1.out.size))
  clear P1 B1
  clear b2
  have honeP := factC_one v ct
  go_upto_region 3 with (first
      | (refine wpList_store_row rfl 23 _ _ rfl w.heap.size (factC v ct) rfl rfl 23 _ P2.out (hiC _ _) rfl honeP ?_)
      | (refine wpList_load_fact rfl _ rfl w.heap.size rfl v t P2.out ?_))
  obtain ⟨W3, hW3, P3, B3⟩ : ∃ W3, W2.setRow w.heap.size (factC v ct) = W3 ∧ Hid (W3.heap[w.heap.size]? = some (.cells (factC v ct) 23 (0, 0))) ∧ Hid (Below w.heap.size w W3) :=
    ⟨_, rfl, Lib.hid (setRow_heap _ _ _ _ _ _ P2.out), Lib.hid (below_setRow' B2.out _ _ (Nat.le_refl _))⟩
  rw [hW3]
  clear hW3 P2 B2
  go_wp2_with (first
      | (refine wpList_load_fact rfl _ rfl w.heap.size rfl v ct P3.out ?_))
  refine (HV.out _).mono ?_
  rintro e W4 ⟨rfl, b4⟩
  have P4 := Lib.hid (Hl.row b4 P3.out)
  have B4 := Lib.hid (B3.out.trans (Below.mono b4 B3.out.size))
  clear P3 B3
  clear b4
  have honeA := factC_one v ct
  go_upto_region 6 with (first
      | (refine wpList_store_row rfl 23 _ _ rfl W4.heap.size (factC v ct) rfl rfl 23 _ (heap_new W4 _) (hiC _ _) rfl honeA ?_)
      | (refine wpList_load_fact rfl _ rfl w.heap.size rfl v ct P4.out ?_))
  have hltPA : w.heap.size < W4.heap.size := (Array.getElem?_eq_some_iff.1 P4.out).1
  have hBA : w.heap.size ≤ W4.heap.size := B4.out.size
  obtain ⟨W5, hW5, P5, A5, B5, hs5⟩ : ∃ W5, (W4.alloc (.cells (factC zeroV ⟨#[]⟩) 23)).setRow W4.heap.size (factC v ct) = W5 ∧ Hid (W5.heap[w.heap.size]? = some (.cells (factC v ct) 23 (0, 0))) ∧ Hid (W5.heap[W4.heap.size]? = some (.cells (factC v ct) 23 (0, 0))) ∧ Hid (Below w.heap.size w W5) ∧ Hid (W4.heap.size < W5.heap.size) :=
    ⟨_, rfl, Lib.hid ((setRow_other _ _ _ _ (Nat.ne_of_lt (Array.getElem?_eq_some_iff.1 P4.out).1)).trans (row_aft _ _ _ _ P4.out)), Lib.hid (setRow_heap _ _ _ _ _ _ (heap_new W4 _)), Lib.hid (below_setRow' (B4.out.alloc B4.out.size _) _ _ B4.out.size), Lib.hid (by simp)⟩
  rw [hW5]
  clear hW5 P4 B4
  have hleA := hBA
  clear hBA
  generalize W4.heap.size = AA at *
  have honeC := factC_one v ct
  go_upto_region 7 with (first
      | (refine wpList_store_row rfl 23 _ _ rfl W5.heap.size (factC v ct) rfl rfl 23 _ (heap_new W5 _) (hiC _ _) rfl honeC ?_)
      | (refine wpList_load_fact rfl _ rfl w.heap.size rfl v ct P5.out ?_)
      | (refine wpList_load_fact rfl _ rfl AA rfl v ct A5.out ?_))
  have hltPC : w.heap.size < W5.heap.size := (Array.getElem?_eq_some_iff.1 P5.out).1
  have hltAC : AA < W5.heap.size := (Array.getElem?_eq_some_iff.1 A5.out).1
  have hBC : w.heap.size ≤ W5.heap.size := B5.out.size
  obtain ⟨W6, hW6, P6, A6, C6, B6, hs6⟩ : ∃ W6, (W5.alloc (.cells (factC zeroV ⟨#[]⟩) 23)).setRow W5.heap.size (factC v ct) = W6 ∧ Hid (W6.heap[w.heap.size]? = some (.cells (factC v ct) 23 (0, 0))) ∧ Hid (W6.heap[AA]? = some (.cells (factC v ct) 23 (0, 0))) ∧ Hid (W6.heap[W5.heap.size]? = some (.cells (factC v ct) 23 (0, 0))) ∧ Hid (Below w.heap.size w W6) ∧ Hid (W5.heap.size < W6.heap.size) :=
    ⟨_, rfl, Lib.hid ((setRow_other _ _ _ _ (Nat.ne_of_lt (Array.getElem?_eq_some_iff.1 P5.out).1)).trans (row_aft _ _ _ _ P5.out)), Lib.hid ((setRow_other _ _ _ _ (Nat.ne_of_lt (Array.getElem?_eq_some_iff.1 A5.out).1)).trans (row_aft _ _ _ _ A5.out)), Lib.hid (setRow_heap _ _ _ _ _ _ (heap_new W5 _)), Lib.hid (below_setRow' (B5.out.alloc B5.out.size _) _ _ B5.out.size), Lib.hid (by simp)⟩
  rw [hW6]
  clear hW6 P5 A5 B5
  have hleC := hBC
  clear hBC
  generalize W5.heap.size = AC at *
  have cA : W6.cell? ⟨AA, 2, none⟩ = some (.int .i64 (v 2)) := (row18 A6.out).2.2.1
  have zA : W6.frozen? ⟨AA, 2, none⟩ = false := frozen_of_row _ _ _ _ _ A6.out
  go_wp2_with (first
      | (refine wpList_load_fact rfl _ rfl w.heap.size rfl v ct P6.out ?_)
      | (refine wpList_load_fact rfl _ rfl AA rfl v ct A6.out ?_)
      | (refine wpList_load_fact rfl _ rfl AC rfl v ct C6.out ?_))
  refine (PN.out _).mono ?_
  rintro e W' ⟨rfl, rfl⟩
  go_upto_region 8 with (first
      | (refine wpList_load_fact rfl _ rfl w.heap.size rfl v ct P6.out ?_)
      | (refine wpList_load_fact rfl _ rfl AA rfl v ct A6.out ?_)
      | (refine wpList_load_fact rfl _ rfl AC rfl v ct C6.out ?_))
  obtain ⟨W7, hW7, P7, A7, C7, B7⟩ : ∃ W7, W6.setCell ⟨AA, 2, none⟩ (.int .i64 (1 + x)) = W7 ∧ Hid (W7.heap[w.heap.size]? = some (.cells (factC v ct) 23 (0, 0))) ∧ Hid (W7.heap[AA]? = some (.cells (factC fa ct) 23 (0, 0))) ∧ Hid (W7.heap[AC]? = some (.cells (factC v ct) 23 (0, 0))) ∧ Hid (Below w.heap.size w W7) :=
    ⟨_, rfl, Lib.hid ((heap_setCell_other _ _ _ _ (by simp; omega)).trans P6.out), Lib.hid (va.out _ _ A6.out), Lib.hid ((heap_setCell_other _ _ _ _ (by simp; omega)).trans C6.out), Lib.hid (B6.out.setCell (p := ⟨AA, 2, none⟩) (by omega) _)⟩
  rw [hW7]
  clear hW7 P6 A6 C6 B6
  clear cA zA
  have cC : W7.cell? ⟨AC, 2, none⟩ = some (.int .i64 (v 2)) := (row18 C7.out).2.2.1
  have zC : W7.frozen? ⟨AC, 2, none⟩ = false := frozen_of_row _ _ _ _ _ C7.out
  go_wp2_with (first
      | (refine wpList_load_fact rfl _ rfl w.heap.size rfl v ct P7.out ?_)
      | (refine wpList_load_fact rfl _ rfl AA rfl fa ct A7.out ?_)
      | (refine wpList_load_fact rfl _ rfl AC rfl v ct C7.out ?_))
  refine (PM.out _).mono ?_
  rintro e W' ⟨rfl, rfl⟩
  go_upto_region 9 with (first
      | (refine wpList_load_fact rfl _ rfl w.heap.size rfl v ct P7.out ?_)
      | (refine wpList_load_fact rfl _ rfl AA rfl fa ct A7.out ?_)
      | (refine wpList_load_fact rfl _ rfl AC rfl v ct C7.out ?_))
  obtain ⟨W8, hW8, P8, A8, C8, B8⟩ : ∃ W8, W7.setCell ⟨AC, 2, none⟩ (.int .i64 (1 + y)) = W8 ∧ Hid (W8.heap[w.heap.size]? = some (.cells (factC v ct) 23 (0, 0))) ∧ Hid (W8.heap[AA]? = some (.cells (factC fa ct) 23 (0, 0))) ∧ Hid (W8.heap[AC]? = some (.cells (factC fb ct) 23 (0, 0))) ∧ Hid (Below w.heap.size w W8) :=
    ⟨_, rfl, Lib.hid ((heap_setCell_other _ _ _ _ (by simp; omega)).trans P7.out), Lib.hid ((heap_setCell_other _ _ _ _ (by simp; omega)).trans A7.out), Lib.hid (vb.out _ _ C7.out), Lib.hid (B7.out.setCell (p := ⟨AC, 2, none⟩) (by omega) _)⟩
  rw [hW8]
  clear hW8 P7 A7 C7 B7
  clear cC zC
  have honeN := factC_one v ct
  go_upto_region 10 with (first
      | (refine wpList_store_row rfl 23 _ _ rfl W8.heap.size (factC v ct) rfl rfl 23 _ (heap_new W8 _) (hiC _ _) rfl honeN ?_)
      | (refine wpList_load_fact rfl _ rfl w.heap.size rfl v ct P8.out ?_)
      | (refine wpList_load_fact rfl _ rfl AA rfl fa ct A8.out ?_)
      | (refine wpList_load_fact rfl _ rfl AC rfl fb ct C8.out ?_))
  have hltPN : w.heap.size < W8.heap.size := (Array.getElem?_eq_some_iff.1 P8.out).1
  have hltAN : AA < W8.heap.size := (Array.getElem?_eq_some_iff.1 A8.out).1
  have hltCN : AC < W8.heap.size := (Array.getElem?_eq_some_iff.1 C8.out).1
  have hBN : w.heap.size ≤ W8.heap.size := B8.out.size
  obtain ⟨W9, hW9, P9, A9, C9, N9, B9, hs9⟩ : ∃ W9, (W8.alloc (.cells (factC zeroV ⟨#[]⟩) 23)).setRow W8.heap.size (factC v ct) = W9 ∧ Hid (W9.heap[w.heap.size]? = some (.cells (factC v ct) 23 (0, 0))) ∧ Hid (W9.heap[AA]? = some (.cells (factC fa ct) 23 (0, 0))) ∧ Hid (W9.heap[AC]? = some (.cells (factC fb ct) 23 (0, 0))) ∧ Hid (W9.heap[W8.heap.size]? = some (.cells (factC v ct) 23 (0, 0))) ∧ Hid (Below w.heap.size w W9) ∧ Hid (W8.heap.size < W9.heap.size) :=
    ⟨_, rfl, Lib.hid ((setRow_other _ _ _ _ (Nat.ne_of_lt (Array.getElem?_eq_some_iff.1 P8.out).1)).trans (row_aft _ _ _ _ P8.out)), Lib.hid ((setRow_other _ _ _ _ (Nat.ne_of_lt (Array.getElem?_eq_some_iff.1 A8.out).1)).trans (row_aft _ _ _ _ A8.out)), Lib.hid ((setRow_other _ _ _ _ (Nat.ne_of_lt (Array.getElem?_eq_some_iff.1 C8.out).1)).trans (row_aft _ _ _ _ C8.out)), Lib.hid (setRow_heap _ _ _ _ _ _ (heap_new W8 _)), Lib.hid (below_setRow' (B8.out.alloc B8.out.size _) _ _ B8.out.size), Lib.hid (by simp)⟩
  rw [hW9]
  clear hW9 P8 A8 C8 B8
  have hleN := hBN
  clear hBN
  generalize W8.heap.size = AN at *
  have cN : W9.cell? ⟨AN, 2, none⟩ = some (.int .i64 (v 2)) := (row18 N9.out).2.2.1
  have zN : W9.frozen? ⟨AN, 2, none⟩ = false := frozen_of_row _ _ _ _ _ N9.out
  go_upto_region 11 with (first
      | (refine wpList_load_fact rfl _ rfl w.heap.size rfl v ct P9.out ?_)
      | (refine wpList_load_fact rfl _ rfl AA rfl fa ct A9.out ?_)
      | (refine wpList_load_fact rfl _ rfl AC rfl fb ct C9.out ?_)
      | (refine wpList_load_fact rfl _ rfl AN rfl v ct N9.out ?_))
  obtain ⟨W10, hW10, P10, A10, C10, N10, B10⟩ : ∃ W10, W9.setCell ⟨AN, 2, none⟩ (.int .i64 0) = W10 ∧ Hid (W10.heap[w.heap.size]? = some (.cells (factC v ct) 23 (0, 0))) ∧ Hid (W10.heap[AA]? = some (.cells (factC fa ct) 23 (0, 0))) ∧ Hid (W10.heap[AC]? = some (.cells (factC fb ct) 23 (0, 0))) ∧ Hid (W10.heap[AN]? = some (.cells (factC fn ct) 23 (0, 0))) ∧ Hid (Below w.heap.size w W10) :=
    ⟨_, rfl, Lib.hid ((heap_setCell_other _ _ _ _ (by simp; omega)).trans P9.out), Lib.hid ((heap_setCell_other _ _ _ _ (by simp; omega)).trans A9.out), Lib.hid ((heap_setCell_other _ _ _ _ (by simp; omega)).trans C9.out), Lib.hid (vn.out _ _ N9.out), Lib.hid (B9.out.setCell (p := ⟨AN, 2, none⟩) (by omega) _)⟩
  rw [hW10]
  clear hW10 P9 A9 C9 N9 B9
  clear cN zN
  have honeL := factC_one v ct
  go_upto_region 12 with (first
      | (refine wpList_store_row rfl 23 _ _ rfl W10.heap.size (factC v ct) rfl rfl 23 _ (heap_new W10 _) (hiC _ _) rfl honeL ?_)
      | (refine wpList_load_fact rfl _ rfl w.heap.size rfl v ct P10.out ?_)
      | (refine wpList_load_fact rfl _ rfl AA rfl fa ct A10.out ?_)
      | (refine wpList_load_fact rfl _ rfl AC rfl fb ct C10.out ?_)
      | (refine wpList_load_fact rfl _ rfl AN rfl fn ct N10.out ?_))
  have hltPL : w.heap.size < W10.heap.size := (Array.getElem?_eq_some_iff.1 P10.out).1
  have hltAL : AA < W10.heap.size := (Array.getElem?_eq_some_iff.1 A10.out).1
  have hltCL : AC < W10.heap.size := (Array.getElem?_eq_some_iff.1 C10.out).1
  have hltNL : AN < W10.heap.size := (Array.getElem?_eq_some_iff.1 N10.out).1
  have hBL : w.heap.size ≤ W10.heap.size := B10.out.size
  obtain ⟨W11, hW11, P11, A11, C11, N11, L11, B11, hs11⟩ : ∃ W11, (W10.alloc (.cells (factC zeroV ⟨#[]⟩) 23)).setRow W10.heap.size (factC v ct) = W11 ∧ Hid (W11.heap[w.heap.size]? = some (.cells (factC v ct) 23 (0, 0))) ∧ Hid (W11.heap[AA]? = some (.cells (factC fa ct) 23 (0, 0))) ∧ Hid (W11.heap[AC]? = some (.cells (factC fb ct) 23 (0, 0))) ∧ Hid (W11.heap[AN]? = some (.cells (factC fn ct) 23 (0, 0))) ∧ Hid (W11.heap[W10.heap.size]? = some (.cells (factC v ct) 23 (0, 0))) ∧ Hid (Below w.heap.size w W11) ∧ Hid (W10.heap.size < W11.heap.size) :=
    ⟨_, rfl, Lib.hid ((setRow_other _ _ _ _ (Nat.ne_of_lt (Array.getElem?_eq_some_iff.1 P10.out).1)).trans (row_aft _ _ _ _ P10.out)), Lib.hid ((setRow_other _ _ _ _ (Nat.ne_of_lt (Array.getElem?_eq_some_iff.1 A10.out).1)).trans (row_aft _ _ _ _ A10.out)), Lib.hid ((setRow_other _ _ _ _ (Nat.ne_of_lt (Array.getElem?_eq_some_iff.1 C10.out).1)).trans (row_aft _ _ _ _ C10.out)), Lib.hid ((setRow_other _ _ _ _ (Nat.ne_of_lt (Array.getElem?_eq_some_iff.1 N10.out).1)).trans (row_aft _ _ _ _ N10.out)), Lib.hid (setRow_heap _ _ _ _ _ _ (heap_new W10 _)), Lib.hid (below_setRow' (B10.out.alloc B10.out.size _) _ _ B10.out.size), Lib.hid (by simp)⟩
  rw [hW11]
  clear hW11 P10 A10 C10 N10 B10
  have hleL := hBL
  clear hBL
  generalize W10.heap.size = AL at *
  have cL : W11.cell? ⟨AL, 2, none⟩ = some (.int .i64 (v 2)) := (row18 L11.out).2.2.1
  have zL : W11.frozen? ⟨AL, 2, none⟩ = false := frozen_of_row _ _ _ _ _ L11.out
  go_upto_region 13 with (first
      | (refine wpList_load_fact rfl _ rfl w.heap.size rfl v ct P11.out ?_)
      | (refine wpList_load_fact rfl _ rfl AA rfl fa ct A11.out ?_)
      | (refine wpList_load_fact rfl _ rfl AC rfl fb ct C11.out ?_)
      | (refine wpList_load_fact rfl _ rfl AN rfl fn ct N11.out ?_)
      | (refine wpList_load_fact rfl _ rfl AL rfl v ct L11.out ?_))
  obtain ⟨W12, hW12, P12, A12, C12, N12, L12, B12⟩ : ∃ W12, W11.setCell ⟨AL, 2, none⟩ (.int .i64 1001) = W12 ∧ Hid (W12.heap[w.heap.size]? = some (.cells (factC v ct) 23 (0, 0))) ∧ Hid (W12.heap[AA]? = some (.cells (factC fa ct) 23 (0, 0))) ∧ Hid (W12.heap[AC]? = some (.cells (factC fb ct) 23 (0, 0))) ∧ Hid (W12.heap[AN]? = some (.cells (factC fn ct) 23 (0, 0))) ∧ Hid (W12.heap[AL]? = some (.cells (factC fl ct) 23 (0, 0))) ∧ Hid (Below w.heap.size w W12) :=
    ⟨_, rfl, Lib.hid ((heap_setCell_other _ _ _ _ (by simp; omega)).trans P11.out), Lib.hid ((heap_setCell_other _ _ _ _ (by simp; omega)).trans A11.out), Lib.hid ((heap_setCell_other _ _ _ _ (by simp; omega)).trans C11.out), Lib.hid ((heap_setCell_other _ _ _ _ (by simp; omega)).trans N11.out), Lib.hid (vl.out _ _ L11.out), Lib.hid (B11.out.setCell (p := ⟨AL, 2, none⟩) (by omega) _)⟩
  rw [hW12]
  clear hW12 P11 A11 C11 N11 L11 B11
  clear cL zL
  obtain ⟨-, -, da, -⟩ := row18x A12.out
  obtain ⟨-, -, db, -⟩ := row18x C12.out
  rw [CA.out] at da
  rw [CB.out] at db
  refine wp_region_hl W12 (Hl.refl _) (by kernel_rfl) (by kernel_rfl) ?_
  repeat (first
    | go_big_quiet_skip
    | (go_big_quiet_want; refine quiet_load_row _ rfl _ rfl _ _ P12.out ?_; simp only [Act.put, List.setIfInBounds_toArray, List.set_cons_zero, List.set_cons_succ]; go_big_quiet_on)
    | (go_big_quiet_want; refine quiet_load_row _ rfl _ rfl _ _ A12.out ?_; simp only [Act.put, List.setIfInBounds_toArray, List.set_cons_zero, List.set_cons_succ]; go_big_quiet_on)
    | (go_big_quiet_want; refine quiet_load_row _ rfl _ rfl _ _ C12.out ?_; simp only [Act.put, List.setIfInBounds_toArray, List.set_cons_zero, List.set_cons_succ]; go_big_quiet_on)
    | (go_big_quiet_want; refine quiet_load_row _ rfl _ rfl _ _ N12.out ?_; simp only [Act.put, List.setIfInBounds_toArray, List.set_cons_zero, List.set_cons_succ]; go_big_quiet_on)
    | (go_big_quiet_want; refine quiet_load_row _ rfl _ rfl _ _ L12.out ?_; simp only [Act.put, List.setIfInBounds_toArray, List.set_cons_zero, List.set_cons_succ]; go_big_quiet_on)
    | (go_big_quiet_want; go_big_quiet_op; first
      | go_big_quiet_on
      | (apply Exists.intro; (with_reducible refine ⟨fun _ => hl_call (HA.out _), ?_⟩); go_big_quiet_on)
      | (apply Exists.intro; (with_reducible refine ⟨fun _ => hl_call (KA.out _), ?_⟩); go_big_quiet_on)
      | (apply Exists.intro; (with_reducible refine ⟨fun _ => hl_call (KF.out _), ?_⟩); go_big_quiet_on)
      | (apply Exists.intro; (with_reducible refine ⟨fun _ => hl_call (HQ.out _), ?_⟩); go_big_quiet_on)
      | (apply Exists.intro; (with_reducible refine ⟨fun _ => hl_call (HN.out _), ?_⟩); go_big_quiet_on)
      | (apply Exists.intro; (with_reducible refine ⟨fun _ => hl_call (HL.out _), ?_⟩); go_big_quiet_on)
      ))
  refine wpQuiet_nil ?_
  intro WE hE1
  go_wp2_with fail
  go_ret
  exact ⟨rfl, B12.out.trans (Below.mono hE1 B12.out.size)⟩

theorem vers_walk (v : Nat → Int) (t : ByteArray) (n m : Int) (w : World) (a : Addr) (hK : Konst w) (hE : ErrK a w) (_ : Ints v) (ht : t.size ≤ 9223372036854775807) (hn0 : -9223372036854775808 ≤ n) (hn1 : n ≤ 9223372036854775807) (hm0 : -9223372036854775808 ≤ m) (hm1 : m ≤ 9223372036854775807) :
    Calls Tryd.prog 11 #[.agg (factC v t), .int .i64 n, .int .i64 m] w fun e W' => e = .returned (.bool true) ∧ Below w.heap.size w W' := by
  rcases hok : okT v (cutT t) with _ | _
  · exact vers_bad v t n m w a hK hE ht hok
  · exact vers_ok v t n m w a hK hE ht hn0 hn1 hm0 hm1 hok

end Go.Proofs.YtnbeebndcgoalaaDoor
