/- The contract of package digest's schedule: it returns the array of the 64 words of a block. -/
import Derived.Test.YtnbeebndcgoalaaDoorDOwn1
import Derived.Deep.WholeRow
namespace Go.Proofs.YtnbeebndcgoalaaDoor
open Go.RowKit
/-- 64 words of which the first ones are set. -/
def fill64 (P : List Nat) : List Nat := P ++ List.replicate (64 - P.length) 0
theorem fill64_length (P : List Nat) (h : P.length ≤ 64) : (fill64 P).length = 64 := by
  unfold fill64; rw [List.length_append, List.length_replicate]; omega
theorem fill64_set (P : List Nat) (x : Nat) (h : P.length < 64) : (fill64 P).set P.length x = fill64 (P ++ [x]) := by
  unfold fill64
  rw [List.set_append_right _ _ (Nat.le_refl _), Nat.sub_self, List.append_assoc, List.length_append, List.length_singleton]
  rw [show 64 - P.length = (64 - (P.length + 1)) + 1 by omega, List.replicate_succ, List.set_cons_zero]
  rfl
theorem fill64_get (P : List Nat) (j : Nat) (h : j < P.length) : (fill64 P).getD j 0 = P.getD j 0 := by
  unfold fill64
  rw [List.getD_eq_getElem?_getD, List.getD_eq_getElem?_getD, List.getElem?_append_left h]
theorem fill64_full (P : List Nat) (h : P.length = 64) : fill64 P = P := by unfold fill64; rw [h]; simp
/-- A block that holds an array of words. -/
def Arr32 (w : World) (B : Nat) (t : TypeId) (l : List Nat) : Prop := w.heap[B]? = some (.cells (cells32 l).toArray t (0, 0))
def Arr8 (w : World) (B : Nat) (t : TypeId) (l : List UInt8) : Prop := w.heap[B]? = some (.cells (cells8 l).toArray t (0, 0))
theorem Arr32.cell {w : World} {B : Nat} {t : TypeId} {l : List Nat} (h : Arr32 w B t l) (j : Nat) (hj : j < l.length) : w.cell? ⟨B, j, none⟩ = some (.int .u32 ((l.getD j 0 : Nat) : Int)) := by
  rw [cell_of_row _ _ _ _ _ _ h]
  unfold cells32
  simp only [List.getElem?_toArray, List.getElem?_map, List.getD_eq_getElem?_getD, List.getElem?_eq_getElem hj]
  rfl
theorem Arr8.cell {w : World} {B : Nat} {t : TypeId} {l : List UInt8} (h : Arr8 w B t l) (j : Nat) (hj : j < l.length) : w.cell? ⟨B, j, none⟩ = some (.int .u8 (((l.getD j 0).toNat : Nat) : Int)) := by
  rw [cell_of_row _ _ _ _ _ _ h]
  unfold cells8
  simp only [List.getElem?_toArray, List.getElem?_map, List.getD_eq_getElem?_getD, List.getElem?_eq_getElem hj]
  rfl
theorem cells32_set (l : List Nat) (i x : Nat) : (cells32 l).toArray.setIfInBounds i (.int .u32 ((x : Nat) : Int)) = (cells32 (l.set i x)).toArray := by
  apply Array.ext'
  simp [cells32, List.map_set]
theorem Arr32.set {w : World} {B : Nat} {t : TypeId} {l : List Nat} (h : Arr32 w B t l) (i x : Nat) : Arr32 (w.setCell ⟨B, i, none⟩ (.int .u32 ((x : Nat) : Int))) B t (l.set i x) := by
  unfold Arr32
  rw [heap_setCell_same _ _ _ _ _ _ h, cells32_set]

/-- 64 zero words, as the walk lays them. -/
abbrev zeros64 : Array Value := #[.int .u32 0, .int .u32 0, .int .u32 0, .int .u32 0, .int .u32 0, .int .u32 0, .int .u32 0, .int .u32 0, .int .u32 0, .int .u32 0, .int .u32 0, .int .u32 0, .int .u32 0, .int .u32 0, .int .u32 0, .int .u32 0, .int .u32 0, .int .u32 0, .int .u32 0, .int .u32 0, .int .u32 0, .int .u32 0, .int .u32 0, .int .u32 0, .int .u32 0, .int .u32 0, .int .u32 0, .int .u32 0, .int .u32 0, .int .u32 0, .int .u32 0, .int .u32 0, .int .u32 0, .int .u32 0, .int .u32 0, .int .u32 0, .int .u32 0, .int .u32 0, .int .u32 0, .int .u32 0, .int .u32 0, .int .u32 0, .int .u32 0, .int .u32 0, .int .u32 0, .int .u32 0, .int .u32 0, .int .u32 0, .int .u32 0, .int .u32 0, .int .u32 0, .int .u32 0, .int .u32 0, .int .u32 0, .int .u32 0, .int .u32 0, .int .u32 0, .int .u32 0, .int .u32 0, .int .u32 0, .int .u32 0, .int .u32 0, .int .u32 0, .int .u32 0]
theorem cells32_one (l : List Nat) : (cells32 l).toArray.all (·.oneCell') = true := by
  rw [Array.all_eq_true_iff_forall_mem]
  intro x hx
  obtain ⟨y, _, rfl⟩ := List.mem_map.1 (List.mem_toArray.1 hx)
  rfl
theorem below_setRow {B : Nat} {a w : World} (h : Below B a w) (g : Nat) (cs : Array Value) (hg : B ≤ g) : Below B a (w.setRow g cs) :=
  h.trans ⟨rfl, rfl, rfl, by simp, fun k hk => setRow_other _ _ _ _ (by omega)⟩
theorem alloc3 (w : World) (A B C : Obj) : ((w.alloc A).alloc B).alloc C = ((w.alloc A).alloc B).alloc C ∧ (((w.alloc A).alloc B).alloc C).heap[w.heap.size]? = some A ∧ (((w.alloc A).alloc B).alloc C).heap[w.heap.size + 1]? = some B ∧
    (((w.alloc A).alloc B).alloc C).heap[w.heap.size + 2]? = some C ∧ Below w.heap.size w (((w.alloc A).alloc B).alloc C) := by
  refine ⟨rfl, ?_, ?_, ?_, (((Below.refl _ w).alloc (Nat.le_refl _) _).alloc (by simp) _).alloc (by simp; omega) _⟩
  · rw [heap_alloc_old, heap_alloc_old, heap_alloc_new] <;> (simp <;> omega)
  · have h := heap_alloc_new (w.alloc A) B
    have h2 : (((w.alloc A).alloc B).alloc C).heap[w.heap.size + 1]? = ((w.alloc A).alloc B).heap[w.heap.size + 1]? := heap_alloc_old _ _ (by simp)
    rw [h2]
    simpa using h
  · have := heap_alloc_new ((w.alloc A).alloc B) C
    simpa using this

set_option maxRecDepth 100000 in
set_option maxHeartbeats 4000000 in
theorem schedule_calls (bl : List UInt8) (w : World) (hl : bl.length = 64) :
    Calls Tryd.prog 83 #[.agg (cells8 bl).toArray] w fun e W' => e = .returned (.agg (cells32 (schedN (words16 bl) 48)).toArray) ∧ Below w.heap.size w W' := by
  have Hl := Lib.hid hl
  clear hl
  go_enter Tryd.func83, Tryd.ntmps83
  go_wp2_with fail
  obtain ⟨W0, hW0, f0, f1, f2, b0⟩ : ∃ W0, ((w.alloc (.cells (cells8 bl).toArray 99)).alloc (.cells zeros64 114)).alloc (.cells zeros64 114) = W0 ∧ Arr8 W0 w.heap.size 99 bl ∧ Arr32 W0 (w.heap.size + 1) 114 (fill64 []) ∧
      Arr32 W0 (w.heap.size + 2) 114 (fill64 []) ∧ Below w.heap.size w W0 := ⟨_, alloc3 w _ _ _⟩
  rw [hW0]
  have F0 := Lib.hid f0
  have F1 := Lib.hid f1
  have F2 := Lib.hid f2
  clear f0 f1 f2 hW0
  go_loopw [8] (fun iv wr => ∃ k : Nat, k ≤ 16 ∧ iv = .int .i64 k ∧ Hid (Arr8 wr w.heap.size 99 bl) ∧ Hid (Arr32 wr (w.heap.size + 1) 114 (fill64 [])) ∧ Hid (Arr32 wr (w.heap.size + 2) 114 (fill64 ((words16 bl).take k))) ∧ Below w.heap.size w wr)
    (fun iv _ => 16 - (intOf iv).toNat)
  case atStart => exact ⟨0, by omega, rfl, F0, F1, F2, b0⟩
  case round =>
    obtain ⟨k, hk, rfl, F0, F1, F2, bR⟩ := hrel
    by_cases hlt : k < 16
    · have d0 := F0.out.cell (4 * k) (by have := Hl.out; omega)
      have d1 := F0.out.cell (4 * k + 1) (by have := Hl.out; omega)
      have d2 := F0.out.cell (4 * k + 2) (by have := Hl.out; omega)
      have d3 := F0.out.cell (4 * k + 3) (by have := Hl.out; omega)
      have Hc := Lib.hid (words16_snoc bl k hlt)
      unfold wordN at Hc
      have Hx := Lib.hid (word_bits _ _ _ _ (bl.getD (4 * k) 0).toNat_lt (bl.getD (4 * k + 1) 0).toNat_lt (bl.getD (4 * k + 2) 0).toNat_lt (bl.getD (4 * k + 3) 0).toNat_lt)
      generalize (bl.getD (4 * k) 0).toNat = x0 at d0 Hx Hc
      generalize (bl.getD (4 * k + 1) 0).toNat = x1 at d1 Hx Hc
      generalize (bl.getD (4 * k + 2) 0).toNat = x2 at d2 Hx Hc
      generalize (bl.getD (4 * k + 3) 0).toNat = x3 at d3 Hx Hc
      have hPl : ((words16 bl).take k).length = k := by rw [List.length_take, show (words16 bl).length = 16 from by simp [words16]]; omega
      have c0 := F2.out.cell k (by rw [fill64_length _ (by rw [hPl]; omega)]; omega)
      have cf : wr.frozen? ⟨w.heap.size + 2, k, none⟩ = false := frozen_of_row _ _ _ _ _ F2.out
      have HPl := Lib.hid hPl
      clear hPl
      have k0 : 4 * (k : Int) < 64 := by omega
      have k1 : 4 * (k : Int) + 1 < 64 := by omega
      have k2 : 4 * (k : Int) + 2 < 64 := by omega
      have k3 : 4 * (k : Int) + 3 < 64 := by omega
      have kk : 0 ≤ 4 * (k : Int) := by omega
      have q1 : 0 ≤ 4 * (k : Int) + 1 := by omega
      have q2 : 0 ≤ 4 * (k : Int) + 2 := by omega
      have q3 : 0 ≤ 4 * (k : Int) + 3 := by omega
      have t0 : (4 * (k : Int)).toNat = 4 * k := by omega
      have t1 : (4 * (k : Int) + 1).toNat = 4 * k + 1 := by omega
      have t2 : (4 * (k : Int) + 2).toNat = 4 * k + 2 := by omega
      have t3 : (4 * (k : Int) + 3).toNat = 4 * k + 3 := by omega
      have e0 : IntKind.i64.wrap (4 * (k : Int)) = 4 * (k : Int) := IntWalk.i64_in _ (by omega)
      have e1 : IntKind.i64.wrap (4 * (k : Int) + 1) = 4 * (k : Int) + 1 := IntWalk.i64_in _ (by omega)
      have e2 : IntKind.i64.wrap (4 * (k : Int) + 2) = 4 * (k : Int) + 2 := IntWalk.i64_in _ (by omega)
      have e3 : IntKind.i64.wrap (4 * (k : Int) + 3) = 4 * (k : Int) + 3 := IntWalk.i64_in _ (by omega)
      go_wp2_with fail
      go_region
      all_goals
        go_wp2_with fail
        rw [Hx.out]
        have bS : Below w.heap.size w (wr.setCell ⟨w.heap.size + 1 + 1, k, none⟩ (.int .u32 ((x0 * 16777216 + x1 * 65536 + x2 * 256 + x3 : Nat) : Int))).drew := (bR.setCell (by simp; omega) _).drew
        have g0 : Arr8 (wr.setCell ⟨w.heap.size + 1 + 1, k, none⟩ (.int .u32 ((x0 * 16777216 + x1 * 65536 + x2 * 256 + x3 : Nat) : Int))).drew w.heap.size 99 bl :=
          (heap_setCell_other _ _ _ _ (by simp; omega)).trans F0.out
        have g1 : Arr32 (wr.setCell ⟨w.heap.size + 1 + 1, k, none⟩ (.int .u32 ((x0 * 16777216 + x1 * 65536 + x2 * 256 + x3 : Nat) : Int))).drew (w.heap.size + 1) 114 (fill64 []) :=
          (heap_setCell_other _ _ _ _ (by simp)).trans F1.out
        have g2 : Arr32 (wr.setCell ⟨w.heap.size + 1 + 1, k, none⟩ (.int .u32 ((x0 * 16777216 + x1 * 65536 + x2 * 256 + x3 : Nat) : Int))).drew (w.heap.size + 2) 114 (fill64 ((words16 bl).take (k + 1))) := by
          have h := F2.out.set k (x0 * 16777216 + x1 * 65536 + x2 * 256 + x3)
          have h2 := fill64_set ((words16 bl).take k) (x0 * 16777216 + x1 * 65536 + x2 * 256 + x3) (by rw [HPl.out]; omega)
          rw [HPl.out] at h2
          rw [h2, ← Hc.out] at h
          exact h
        exact ⟨⟨k + 1, by omega, by go_num, Lib.hid g0, Lib.hid g1, Lib.hid g2, bS⟩, by simp [intOf]; omega⟩
    · obtain rfl : k = 16 := by omega
      have Hs : Hid (Arr32 wr (w.heap.size + 2) 114 (fill64 (schedN (words16 bl) (16 - 16)))) := Lib.hid (by
        have h := F2.out
        rw [List.take_of_length_le (by simp [words16])] at h
        exact h)
      clear hlt hk F2 F0
      rw [show ((16 : Nat) : Int) = 16 from rfl]
      go_wp2_with fail
      go_loopw [5] (fun iv wr => ∃ i : Nat, 16 ≤ i ∧ i ≤ 64 ∧ iv = .int .i64 i ∧ Hid (Arr32 wr (w.heap.size + 1) 114 (fill64 [])) ∧ Hid (Arr32 wr (w.heap.size + 2) 114 (fill64 (schedN (words16 bl) (i - 16)))) ∧ Below w.heap.size w wr)
        (fun iv _ => 64 - (intOf iv).toNat)
      case atStart => exact ⟨16, by omega, by omega, rfl, F1, Hs, bR⟩
      case round =>
        obtain ⟨i, hi1, hi2, rfl, F1, F2, bR⟩ := hrel
        clear Hs
        have hLl : (schedN (words16 bl) (i - 16)).length = i := by rw [schedN_length]; simp [words16]; omega
        by_cases hlt : i < 64
        · have hLb := schedN_lt (words16 bl) (i - 16) (words16_lt bl)
          have Hnext : Hid (schedN (words16 bl) (i + 1 - 16) = schedN (words16 bl) (i - 16) ++ [nextW (schedN (words16 bl) (i - 16))]) := Lib.hid (by
            rw [show i + 1 - 16 = (i - 16) + 1 by omega]; rfl)
          have HN : Hid (nextW (schedN (words16 bl) (i - 16)) = ((((schedN (words16 bl) (i - 16)).getD (i - 16) 0 + sig0 ((schedN (words16 bl) (i - 16)).getD (i - 15) 0)) % 4294967296 + (schedN (words16 bl) (i - 16)).getD (i - 7) 0) % 4294967296 + sig1 ((schedN (words16 bl) (i - 16)).getD (i - 2) 0)) % 4294967296) := Lib.hid (by
            unfold nextW; rw [hLl])
          have hf := fill64_length (schedN (words16 bl) (i - 16)) (by rw [hLl]; omega)
          have hg := fun j h => fill64_get (schedN (words16 bl) (i - 16)) j h
          rw [hLl] at hg
          have c16 := F2.out.cell (i - 16) (by omega)
          have c15 := F2.out.cell (i - 15) (by omega)
          have c7 := F2.out.cell (i - 7) (by omega)
          have c2 := F2.out.cell (i - 2) (by omega)
          have c0 := F2.out.cell i (by omega)
          have cf : wr.frozen? ⟨w.heap.size + 2, i, none⟩ = false := frozen_of_row _ _ _ _ _ F2.out
          rw [hg _ (by omega)] at c16 c15 c7 c2
          have b16 := getD_lt _ hLb (i - 16)
          have b15 := getD_lt _ hLb (i - 15)
          have b7 := getD_lt _ hLb (i - 7)
          have b2 := getD_lt _ hLb (i - 2)
          have HLl := Lib.hid hLl
          clear hLb hLl hf hg
          generalize hL : schedN (words16 bl) (i - 16) = L at *
          have HL := Lib.hid hL
          clear hL
          generalize (fill64 L).getD i 0 = xz at *
          generalize L.getD (i - 16) 0 = x16 at *
          generalize L.getD (i - 15) 0 = x15 at *
          generalize L.getD (i - 7) 0 = x7 at *
          generalize L.getD (i - 2) 0 = x2 at *
          have S0 := Lib.hid (sig0_walk x15 b15)
          have S1 := Lib.hid (sig1_walk x2 b2)
          have l15 : (i : Int) - 15 < 64 := by omega
          have l2 : (i : Int) - 2 < 64 := by omega
          have l16 : (i : Int) - 16 < 64 := by omega
          have l7 : (i : Int) - 7 < 64 := by omega
          have p15 : 0 ≤ (i : Int) - 15 := by omega
          have p2 : 0 ≤ (i : Int) - 2 := by omega
          have p16 : 0 ≤ (i : Int) - 16 := by omega
          have p7 : 0 ≤ (i : Int) - 7 := by omega
          have r15 : (15 : Int) ≤ (i : Int) := by omega
          have r2 : (2 : Int) ≤ (i : Int) := by omega
          have r16 : (16 : Int) ≤ (i : Int) := by omega
          have r7 : (7 : Int) ≤ (i : Int) := by omega
          have t15 : ((i : Int) - 15).toNat = i - 15 := by omega
          have t2 : ((i : Int) - 2).toNat = i - 2 := by omega
          have t16 : ((i : Int) - 16).toNat = i - 16 := by omega
          have t7 : ((i : Int) - 7).toNat = i - 7 := by omega
          have e15 : IntKind.i64.wrap ((i : Int) - 15) = (i : Int) - 15 := IntWalk.i64_in _ (by omega)
          have e2 : IntKind.i64.wrap ((i : Int) - 2) = (i : Int) - 2 := IntWalk.i64_in _ (by omega)
          have e16 : IntKind.i64.wrap ((i : Int) - 16) = (i : Int) - 16 := IntWalk.i64_in _ (by omega)
          have e7 : IntKind.i64.wrap ((i : Int) - 7) = (i : Int) - 7 := IntWalk.i64_in _ (by omega)
          go_wp2_with fail
          go_quiet ((go_at_call 84; exact rotate_quiet _ _ _ _ b15 (by omega) (by omega)))
          go_wp2_with fail
          rw [S0.out]
          obtain ⟨w2, hw2, f16, f7, f2, f0, ff, G1, G2, bR2⟩ : ∃ w2, wr.drewN nq = w2 ∧ w2.cell? ⟨w.heap.size + 2, i - 16, none⟩ = some (.int .u32 (x16 : Int)) ∧ w2.cell? ⟨w.heap.size + 2, i - 7, none⟩ = some (.int .u32 (x7 : Int)) ∧ w2.cell? ⟨w.heap.size + 2, i - 2, none⟩ = some (.int .u32 (x2 : Int)) ∧
              w2.cell? ⟨w.heap.size + 2, i, none⟩ = some (.int .u32 (xz : Int)) ∧ w2.frozen? ⟨w.heap.size + 2, i, none⟩ = false ∧ Hid (Arr32 w2 (w.heap.size + 1) 114 (fill64 [])) ∧ Hid (Arr32 w2 (w.heap.size + 2) 114 (fill64 L)) ∧ Below w.heap.size w w2 :=
            ⟨_, rfl, c16, c7, c2, c0, cf, Lib.hid F1.out, Lib.hid F2.out, below_drewN bR nq⟩
          rw [hw2]
          clear hw2 c16 c15 c7 c2 c0 cf F1 F2 bR nq
          go_quiet ((go_at_call 84; exact rotate_quiet _ _ _ _ b2 (by omega) (by omega)))
          go_wp2_with fail
          rw [S1.out]
          obtain ⟨w3, hw3, g16, g7, g0, gf, K1, K2, bR3⟩ : ∃ w3, w2.drewN nq = w3 ∧ w3.cell? ⟨w.heap.size + 2, i - 16, none⟩ = some (.int .u32 (x16 : Int)) ∧ w3.cell? ⟨w.heap.size + 2, i - 7, none⟩ = some (.int .u32 (x7 : Int)) ∧
              w3.cell? ⟨w.heap.size + 2, i, none⟩ = some (.int .u32 (xz : Int)) ∧ w3.frozen? ⟨w.heap.size + 2, i, none⟩ = false ∧ Hid (Arr32 w3 (w.heap.size + 1) 114 (fill64 [])) ∧ Hid (Arr32 w3 (w.heap.size + 2) 114 (fill64 L)) ∧ Below w.heap.size w w3 :=
            ⟨_, rfl, f16, f7, f0, ff, Lib.hid G1.out, Lib.hid G2.out, below_drewN bR2 nq⟩
          rw [hw3]
          clear hw3 f16 f7 f2 f0 ff G1 G2 bR2 nq
          go_region
          all_goals
            go_wp2_with fail
            have hy : ((x16 : Int) + ((sig0 x15 : Nat) : Int) + (x7 : Int) + ((sig1 x2 : Nat) : Int)) % 4294967296 = ((nextW L : Nat) : Int) := by rw [HN.out]; omega
            rw [hy]
            have bS : Below w.heap.size w (w3.setCell ⟨w.heap.size + 1 + 1, i, none⟩ (.int .u32 ((nextW L : Nat) : Int))).drew := (bR3.setCell (by simp; omega) _).drew
            have h1 : Arr32 (w3.setCell ⟨w.heap.size + 1 + 1, i, none⟩ (.int .u32 ((nextW L : Nat) : Int))).drew (w.heap.size + 1) 114 (fill64 []) :=
              (heap_setCell_other _ _ _ _ (by simp)).trans K1.out
            have h2 : Arr32 (w3.setCell ⟨w.heap.size + 1 + 1, i, none⟩ (.int .u32 ((nextW L : Nat) : Int))).drew (w.heap.size + 2) 114 (fill64 (schedN (words16 bl) (i + 1 - 16))) := by
              have h := K2.out.set i (nextW L)
              have h2 := fill64_set L (nextW L) (by rw [HLl.out]; omega)
              rw [HLl.out] at h2
              rw [h2, ← Hnext.out] at h
              exact h
            exact ⟨⟨i + 1, by omega, by omega, by go_num, Lib.hid h1, Lib.hid h2, bS⟩, by simp [intOf]; omega⟩
        · obtain rfl : i = 64 := by omega
          have hfull : fill64 (schedN (words16 bl) (64 - 16)) = schedN (words16 bl) 48 := fill64_full _ hLl
          have Hw : Hid (wr.heap[w.heap.size + 1 + 1]? = some (.cells (cells32 (schedN (words16 bl) 48)).toArray 114 (0, 0))) := Lib.hid (by
            have h := F2.out
            rw [hfull] at h
            exact h)
          have HL48 := Lib.hid (show (schedN (words16 bl) 48).length = 64 from hLl)
          clear hfull hLl hlt hi1 hi2
          generalize hW : schedN (words16 bl) 48 = W at *
          have hz : (cells32 W).toArray.size = 64 := by simp [cells32_length, HL48.out]
          have hi : (Tryd.prog.info? 114).map (·.size) = some (cells32 W).toArray.size := (show (Tryd.prog.info? 114).map (·.size) = some 64 from by kernel_rfl).trans (by rw [hz])
          have hz0 : (cells32 (fill64 [])).toArray.size = (cells32 W).toArray.size := by rw [hz]; rfl
          have hone : (cells32 W).toArray.all (·.oneCell') = true := cells32_one W
          have F1' := F1.out
          unfold Arr32 at F1'
          go_wp2_with (first
            | (refine wpList_load_row rfl 114 _ rfl (w.heap.size + 1 + 1) rfl _ _ _ _ Hw.out Tryd.underlying114 rfl hi ?_)
            | (refine wpList_store_row rfl 114 _ _ rfl (w.heap.size + 1) (cells32 W).toArray rfl rfl 114 (cells32 (fill64 [])).toArray F1' hi hz0 hone ?_))
          refine bodyPost_ret (v := .agg (cells32 W).toArray) ?_ rfl ?_
          · exact results_cell_row rfl _ _ (w.heap.size + 1) 114 (cells32 W).toArray (0, 0) _ rfl (setRow_heap wr (w.heap.size + 1) (cells32 (fill64 [])).toArray (cells32 W).toArray 114 (0, 0) F1') Tryd.underlying114 rfl hi
          · exact ⟨by rw [hW], below_setRow bR _ _ (by omega)⟩
end Go.Proofs.YtnbeebndcgoalaaDoor
