/- The contract of the reference implementation's Root: it returns the plain root of the list. Condition: each entry has at most 400,000 bytes. | The contract of the laws' few: a row of its own with at most n strings, each cut to 60 bytes. | Contracts of the small functions of package digest: rotate, firstPart, splitLast, areDigests. | The contract of package digest's schedule: it returns the array of the 64 words of a block. | The contract of package digest's compress: it returns the array of the eight words that a block makes of eight words. Condition: the table of constants reads as the program lays it. -/
import Derived.Test.YtnndnjnpkjpkpaaGreatDoorDRefSum
import Derived.Lib.Strings
import Derived.Deep.WholeRow
namespace Go.Proofs.YtnndnjnpkjpkpaaGreatDoor
open Go.RowKit
/-- A slice of strings, as a walk reads it. -/
def Strs (w : World) (A : Option Addr) (l : List Bs) : Prop :=
  l = [] ∨ ∃ b o, A = some ⟨b, o, none⟩ ∧ ∀ i, i < l.length → w.cell? ⟨b, o + i, none⟩ = some (.string ⟨(l.getD i []).toArray⟩)
theorem Strs.keep {w w' : World} {A : Option Addr} {l : List Bs} (h : Strs w A l) (hb : Below w.heap.size w w') : Strs w' A l := by
  rcases h with h | ⟨b, o, rfl, h⟩
  · exact Or.inl h
  · exact Or.inr ⟨b, o, rfl, fun i hi => (hb.cell (p := ⟨b, o + i, none⟩) (lt_of_cell (h i hi))).trans (h i hi)⟩
def StrsAt (w : World) (b o : Nat) (l : List Bs) : Prop := ∀ i, i < l.length → w.cell? ⟨b, o + i, none⟩ = some (.string ⟨(l.getD i []).toArray⟩)
theorem StrsAt.keep {w w' : World} {b o : Nat} {l : List Bs} (h : StrsAt w b o l) (hb : Below w.heap.size w w') : StrsAt w' b o l := fun i hi =>
  (hb.cell (p := ⟨b, o + i, none⟩) (lt_of_cell (h i hi))).trans (h i hi)
theorem StrsAt.take {w : World} {b o : Nat} {l : List Bs} (h : StrsAt w b o l) (k : Nat) : StrsAt w b o (l.take k) := fun i hi => by
  have hi2 : i < k ∧ i < l.length := by rw [List.length_take] at hi; omega
  rw [h i hi2.2]
  simp only [List.getD_eq_getElem?_getD, List.getElem?_take, if_pos hi2.1]
theorem StrsAt.drop {w : World} {b o : Nat} {l : List Bs} (h : StrsAt w b o l) (k : Nat) : StrsAt w b (o + k) (l.drop k) := fun i hi => by
  rw [List.length_drop] at hi
  rw [Nat.add_assoc, h (k + i) (by omega)]
  simp only [List.getD_eq_getElem?_getD, List.getElem?_drop]

theorem mk_size (l : List UInt8) : (⟨l.toArray⟩ : ByteArray).size = l.length := rfl

end Go.Proofs.YtnndnjnpkjpkpaaGreatDoor
namespace Go.Proofs.YtnndnjnpkjpkpaaGreatDoor
open Go.RowKit
def cellsS (l : List Bs) : List Value := l.map fun x => .string ⟨x.toArray⟩
theorem cellsS_snoc (l : List Bs) (x : Bs) : cellsS (l ++ [x]) = cellsS l ++ [.string ⟨x.toArray⟩] := by
  unfold cellsS; rw [List.map_append]; rfl
theorem cellsS_length (l : List Bs) : (cellsS l).length = l.length := by unfold cellsS; simp
end Go.Proofs.YtnndnjnpkjpkpaaGreatDoor
namespace Go.Proofs.YtnndnjnpkjpkpaaGreatDoor
open Go.RowKit
theorem rotate_calls (x n : Nat) (w : World) (hx : x < 4294967296) (h1 : 1 ≤ n) (hn : n ≤ 31) :
    Calls Tryz.prog 102 #[.int .u32 (x : Int), .int .i64 (n : Int)] w fun e w' => e = .returned (.int .u32 ((rotN x n : Nat) : Int)) ∧ w' = w.drewN 1 := by
  have HE : Hid (bits BinOp.or IntKind.u32 ((x : Int) / 2 ^ n) ((x : Int) * 2 ^ (32 - n) % 4294967296) = ((rotN x n : Nat) : Int)) := Lib.hid (by
    have h2 : x / 2 ^ n ≤ x := Nat.div_le_self _ _
    have h3 := u32_or (x / 2 ^ n) (x * 2 ^ (32 - n) % 4294967296) (by omega) (by omega)
    unfold rotN
    rw [Nat.shiftRight_eq_div_pow, Nat.shiftLeft_eq, ← h3]
    simp)
  go_enter Tryz.func102, Tryz.ntmps102
  go_wp2
  go_region
  all_goals go_wp2_with fail
  go_ret
  exact ⟨by rw [← HE.out]; rfl, rfl⟩
theorem rotate_quiet (x : Nat) (z : Int) (w : World) (N : Nat) (hx : x < 4294967296) (h1 : 1 ≤ z) (hn : z ≤ 31) :
    Calls Tryz.prog 102 #[.int .u32 (x : Int), .int .i64 z] (w.drewN N) fun e w' => e = .returned (.int .u32 ((rotN x z.toNat : Nat) : Int)) ∧ ∃ m, w' = w.drewN m := by
  obtain ⟨n, rfl⟩ := Int.eq_ofNat_of_zero_le (show 0 ≤ z by omega)
  exact Calls.quiet_of ((rotate_calls x n _ hx (by omega) (by omega)).mono fun _ _ ⟨he, hw⟩ => ⟨he, 1, hw⟩)

end Go.Proofs.YtnndnjnpkjpkpaaGreatDoor
namespace Go.Proofs.YtnndnjnpkjpkpaaGreatDoor
open Go.RowKit
/-- 64 words of which the first ones are set. -/
def fill64 (P : List Nat) : List Nat := P ++ List.replicate (64 - P.length) 0
theorem fill64_length (P : List Nat) (h : P.length ≤ 64) : (fill64 P).length = 64 := by
  unfold fill64; rw [List.length_append, List.length_replicate]; omega
theorem fill64_set (P : List Nat) (x : Nat) (h : P.length < 64) : (fill64 P).set P.length x = fill64 (P ++ [x]) := by
  unfold fill64
  rw [List.set_append_right _ _ (Nat.le_refl _), Nat.sub_self, List.append_assoc, List.length_append, List.length_singleton]
  rw [show 64 - P.length = (64 - (P.length + 1)) + 1 by omega, List.replicate_succ, List.set_cons_zero]
  rfl
theorem fill64_get (P : List Nat) (j : Nat) (h : j < P.length) : (fill64 P).getD j 0 = P.getD j 0 := by
  unfold fill64
  rw [List.getD_eq_getElem?_getD, List.getD_eq_getElem?_getD, List.getElem?_append_left h]
theorem fill64_full (P : List Nat) (h : P.length = 64) : fill64 P = P := by unfold fill64; rw [h]; simp
/-- A block that holds an array of words. -/
def Arr32 (w : World) (B : Nat) (t : TypeId) (l : List Nat) : Prop := w.heap[B]? = some (.cells (cells32 l).toArray t (0, 0))
def Arr8 (w : World) (B : Nat) (t : TypeId) (l : List UInt8) : Prop := w.heap[B]? = some (.cells (cells8 l).toArray t (0, 0))
theorem Arr32.cell {w : World} {B : Nat} {t : TypeId} {l : List Nat} (h : Arr32 w B t l) (j : Nat) (hj : j < l.length) : w.cell? ⟨B, j, none⟩ = some (.int .u32 ((l.getD j 0 : Nat) : Int)) := by
  rw [cell_of_row _ _ _ _ _ _ h]
  unfold cells32
  simp only [List.getElem?_toArray, List.getElem?_map, List.getD_eq_getElem?_getD, List.getElem?_eq_getElem hj]
  rfl
theorem Arr8.cell {w : World} {B : Nat} {t : TypeId} {l : List UInt8} (h : Arr8 w B t l) (j : Nat) (hj : j < l.length) : w.cell? ⟨B, j, none⟩ = some (.int .u8 (((l.getD j 0).toNat : Nat) : Int)) := by
  rw [cell_of_row _ _ _ _ _ _ h]
  unfold cells8
  simp only [List.getElem?_toArray, List.getElem?_map, List.getD_eq_getElem?_getD, List.getElem?_eq_getElem hj]
  rfl
theorem cells32_set (l : List Nat) (i x : Nat) : (cells32 l).toArray.setIfInBounds i (.int .u32 ((x : Nat) : Int)) = (cells32 (l.set i x)).toArray := by
  apply Array.ext'
  simp [cells32, List.map_set]
theorem Arr32.set {w : World} {B : Nat} {t : TypeId} {l : List Nat} (h : Arr32 w B t l) (i x : Nat) : Arr32 (w.setCell ⟨B, i, none⟩ (.int .u32 ((x : Nat) : Int))) B t (l.set i x) := by
  unfold Arr32
  rw [heap_setCell_same _ _ _ _ _ _ h, cells32_set]

/-- 64 zero words, as the walk lays them. -/
abbrev zeros64 : Array Value := #[.int .u32 0, .int .u32 0, .int .u32 0, .int .u32 0, .int .u32 0, .int .u32 0, .int .u32 0, .int .u32 0, .int .u32 0, .int .u32 0, .int .u32 0, .int .u32 0, .int .u32 0, .int .u32 0, .int .u32 0, .int .u32 0, .int .u32 0, .int .u32 0, .int .u32 0, .int .u32 0, .int .u32 0, .int .u32 0, .int .u32 0, .int .u32 0, .int .u32 0, .int .u32 0, .int .u32 0, .int .u32 0, .int .u32 0, .int .u32 0, .int .u32 0, .int .u32 0, .int .u32 0, .int .u32 0, .int .u32 0, .int .u32 0, .int .u32 0, .int .u32 0, .int .u32 0, .int .u32 0, .int .u32 0, .int .u32 0, .int .u32 0, .int .u32 0, .int .u32 0, .int .u32 0, .int .u32 0, .int .u32 0, .int .u32 0, .int .u32 0, .int .u32 0, .int .u32 0, .int .u32 0, .int .u32 0, .int .u32 0, .int .u32 0, .int .u32 0, .int .u32 0, .int .u32 0, .int .u32 0, .int .u32 0, .int .u32 0, .int .u32 0, .int .u32 0]
theorem cells32_one (l : List Nat) : (cells32 l).toArray.all (·.oneCell') = true := by
  rw [Array.all_eq_true_iff_forall_mem]
  intro x hx
  obtain ⟨y, _, rfl⟩ := List.mem_map.1 (List.mem_toArray.1 hx)
  rfl
theorem below_setRow {B : Nat} {a w : World} (h : Below B a w) (g : Nat) (cs : Array Value) (hg : B ≤ g) : Below B a (w.setRow g cs) :=
  h.trans ⟨rfl, rfl, rfl, by simp, fun k hk => setRow_other _ _ _ _ (by omega)⟩
theorem alloc3 (w : World) (A B C : Obj) : ((w.alloc A).alloc B).alloc C = ((w.alloc A).alloc B).alloc C ∧ (((w.alloc A).alloc B).alloc C).heap[w.heap.size]? = some A ∧ (((w.alloc A).alloc B).alloc C).heap[w.heap.size + 1]? = some B ∧
    (((w.alloc A).alloc B).alloc C).heap[w.heap.size + 2]? = some C ∧ Below w.heap.size w (((w.alloc A).alloc B).alloc C) := by
  refine ⟨rfl, ?_, ?_, ?_, (((Below.refl _ w).alloc (Nat.le_refl _) _).alloc (by simp) _).alloc (by simp; omega) _⟩
  · rw [heap_alloc_old, heap_alloc_old, heap_alloc_new] <;> (simp <;> omega)
  · have h := heap_alloc_new (w.alloc A) B
    have h2 : (((w.alloc A).alloc B).alloc C).heap[w.heap.size + 1]? = ((w.alloc A).alloc B).heap[w.heap.size + 1]? := heap_alloc_old _ _ (by simp)
    rw [h2]
    simpa using h
  · have := heap_alloc_new ((w.alloc A).alloc B) C
    simpa using this

set_option maxRecDepth 100000 in
set_option maxHeartbeats 4000000 in
theorem schedule_calls (bl : List UInt8) (w : World) (hl : bl.length = 64) :
    Calls Tryz.prog 101 #[.agg (cells8 bl).toArray] w fun e W' => e = .returned (.agg (cells32 (schedN (words16 bl) 48)).toArray) ∧ Below w.heap.size w W' := by
  have Hl := Lib.hid hl
  clear hl
  go_enter Tryz.func101, Tryz.ntmps101
  go_wp2_with fail
  obtain ⟨W0, hW0, f0, f1, f2, b0⟩ : ∃ W0, ((w.alloc (.cells (cells8 bl).toArray 106)).alloc (.cells zeros64 138)).alloc (.cells zeros64 138) = W0 ∧ Arr8 W0 w.heap.size 106 bl ∧ Arr32 W0 (w.heap.size + 1) 138 (fill64 []) ∧
      Arr32 W0 (w.heap.size + 2) 138 (fill64 []) ∧ Below w.heap.size w W0 := ⟨_, alloc3 w _ _ _⟩
  rw [hW0]
  have F0 := Lib.hid f0
  have F1 := Lib.hid f1
  have F2 := Lib.hid f2
  clear f0 f1 f2 hW0
  go_loopw [8] (fun iv wr => ∃ k : Nat, k ≤ 16 ∧ iv = .int .i64 k ∧ Hid (Arr8 wr w.heap.size 106 bl) ∧ Hid (Arr32 wr (w.heap.size + 1) 138 (fill64 [])) ∧ Hid (Arr32 wr (w.heap.size + 2) 138 (fill64 ((words16 bl).take k))) ∧ Below w.heap.size w wr)
    (fun iv _ => 16 - (intOf iv).toNat)
  case atStart => exact ⟨0, by omega, rfl, F0, F1, F2, b0⟩
  case round =>
    obtain ⟨k, hk, rfl, F0, F1, F2, bR⟩ := hrel
    by_cases hlt : k < 16
    · have d0 := F0.out.cell (4 * k) (by have := Hl.out; omega)
      have d1 := F0.out.cell (4 * k + 1) (by have := Hl.out; omega)
      have d2 := F0.out.cell (4 * k + 2) (by have := Hl.out; omega)
      have d3 := F0.out.cell (4 * k + 3) (by have := Hl.out; omega)
      have Hc := Lib.hid (words16_snoc bl k hlt)
      unfold wordN at Hc
      have Hx := Lib.hid (word_bits _ _ _ _ (bl.getD (4 * k) 0).toNat_lt (bl.getD (4 * k + 1) 0).toNat_lt (bl.getD (4 * k + 2) 0).toNat_lt (bl.getD (4 * k + 3) 0).toNat_lt)
      generalize (bl.getD (4 * k) 0).toNat = x0 at d0 Hx Hc
      generalize (bl.getD (4 * k + 1) 0).toNat = x1 at d1 Hx Hc
      generalize (bl.getD (4 * k + 2) 0).toNat = x2 at d2 Hx Hc
      generalize (bl.getD (4 * k + 3) 0).toNat = x3 at d3 Hx Hc
      have hPl : ((words16 bl).take k).length = k := by rw [List.length_take, show (words16 bl).length = 16 from by simp [words16]]; omega
      have c0 := F2.out.cell k (by rw [fill64_length _ (by rw [hPl]; omega)]; omega)
      have cf : wr.frozen? ⟨w.heap.size + 2, k, none⟩ = false := frozen_of_row _ _ _ _ _ F2.out
      have HPl := Lib.hid hPl
      clear hPl
      have k0 : 4 * (k : Int) < 64 := by omega
      have k1 : 4 * (k : Int) + 1 < 64 := by omega
      have k2 : 4 * (k : Int) + 2 < 64 := by omega
      have k3 : 4 * (k : Int) + 3 < 64 := by omega
      have kk : 0 ≤ 4 * (k : Int) := by omega
      have q1 : 0 ≤ 4 * (k : Int) + 1 := by omega
      have q2 : 0 ≤ 4 * (k : Int) + 2 := by omega
      have q3 : 0 ≤ 4 * (k : Int) + 3 := by omega
      have t0 : (4 * (k : Int)).toNat = 4 * k := by omega
      have t1 : (4 * (k : Int) + 1).toNat = 4 * k + 1 := by omega
      have t2 : (4 * (k : Int) + 2).toNat = 4 * k + 2 := by omega
      have t3 : (4 * (k : Int) + 3).toNat = 4 * k + 3 := by omega
      have e0 : IntKind.i64.wrap (4 * (k : Int)) = 4 * (k : Int) := IntWalk.i64_in _ (by omega)
      have e1 : IntKind.i64.wrap (4 * (k : Int) + 1) = 4 * (k : Int) + 1 := IntWalk.i64_in _ (by omega)
      have e2 : IntKind.i64.wrap (4 * (k : Int) + 2) = 4 * (k : Int) + 2 := IntWalk.i64_in _ (by omega)
      have e3 : IntKind.i64.wrap (4 * (k : Int) + 3) = 4 * (k : Int) + 3 := IntWalk.i64_in _ (by omega)
      go_wp2_with fail
      go_region
      all_goals
        go_wp2_with fail
        rw [Hx.out]
        have bS : Below w.heap.size w (wr.setCell ⟨w.heap.size + 1 + 1, k, none⟩ (.int .u32 ((x0 * 16777216 + x1 * 65536 + x2 * 256 + x3 : Nat) : Int))).drew := (bR.setCell (by simp; omega) _).drew
        have g0 : Arr8 (wr.setCell ⟨w.heap.size + 1 + 1, k, none⟩ (.int .u32 ((x0 * 16777216 + x1 * 65536 + x2 * 256 + x3 : Nat) : Int))).drew w.heap.size 106 bl :=
          (heap_setCell_other _ _ _ _ (by simp; omega)).trans F0.out
        have g1 : Arr32 (wr.setCell ⟨w.heap.size + 1 + 1, k, none⟩ (.int .u32 ((x0 * 16777216 + x1 * 65536 + x2 * 256 + x3 : Nat) : Int))).drew (w.heap.size + 1) 138 (fill64 []) :=
          (heap_setCell_other _ _ _ _ (by simp)).trans F1.out
        have g2 : Arr32 (wr.setCell ⟨w.heap.size + 1 + 1, k, none⟩ (.int .u32 ((x0 * 16777216 + x1 * 65536 + x2 * 256 + x3 : Nat) : Int))).drew (w.heap.size + 2) 138 (fill64 ((words16 bl).take (k + 1))) := by
          have h := F2.out.set k (x0 * 16777216 + x1 * 65536 + x2 * 256 + x3)
          have h2 := fill64_set ((words16 bl).take k) (x0 * 16777216 + x1 * 65536 + x2 * 256 + x3) (by rw [HPl.out]; omega)
          rw [HPl.out] at h2
          rw [h2, ← Hc.out] at h
          exact h
        exact ⟨⟨k + 1, by omega, by go_num, Lib.hid g0, Lib.hid g1, Lib.hid g2, bS⟩, by simp [intOf]; omega⟩
    · obtain rfl : k = 16 := by omega
      have Hs : Hid (Arr32 wr (w.heap.size + 2) 138 (fill64 (schedN (words16 bl) (16 - 16)))) := Lib.hid (by
        have h := F2.out
        rw [List.take_of_length_le (by simp [words16])] at h
        exact h)
      clear hlt hk F2 F0
      rw [show ((16 : Nat) : Int) = 16 from rfl]
      go_wp2_with fail
      go_loopw [5] (fun iv wr => ∃ i : Nat, 16 ≤ i ∧ i ≤ 64 ∧ iv = .int .i64 i ∧ Hid (Arr32 wr (w.heap.size + 1) 138 (fill64 [])) ∧ Hid (Arr32 wr (w.heap.size + 2) 138 (fill64 (schedN (words16 bl) (i - 16)))) ∧ Below w.heap.size w wr)
        (fun iv _ => 64 - (intOf iv).toNat)
      case atStart => exact ⟨16, by omega, by omega, rfl, F1, Hs, bR⟩
      case round =>
        obtain ⟨i, hi1, hi2, rfl, F1, F2, bR⟩ := hrel
        clear Hs
        have hLl : (schedN (words16 bl) (i - 16)).length = i := by rw [schedN_length]; simp [words16]; omega
        by_cases hlt : i < 64
        · have hLb := schedN_lt (words16 bl) (i - 16) (words16_lt bl)
          have Hnext : Hid (schedN (words16 bl) (i + 1 - 16) = schedN (words16 bl) (i - 16) ++ [nextW (schedN (words16 bl) (i - 16))]) := Lib.hid (by
            rw [show i + 1 - 16 = (i - 16) + 1 by omega]; rfl)
          have HN : Hid (nextW (schedN (words16 bl) (i - 16)) = ((((schedN (words16 bl) (i - 16)).getD (i - 16) 0 + sig0 ((schedN (words16 bl) (i - 16)).getD (i - 15) 0)) % 4294967296 + (schedN (words16 bl) (i - 16)).getD (i - 7) 0) % 4294967296 + sig1 ((schedN (words16 bl) (i - 16)).getD (i - 2) 0)) % 4294967296) := Lib.hid (by
            unfold nextW; rw [hLl])
          have hf := fill64_length (schedN (words16 bl) (i - 16)) (by rw [hLl]; omega)
          have hg := fun j h => fill64_get (schedN (words16 bl) (i - 16)) j h
          rw [hLl] at hg
          have c16 := F2.out.cell (i - 16) (by omega)
          have c15 := F2.out.cell (i - 15) (by omega)
          have c7 := F2.out.cell (i - 7) (by omega)
          have c2 := F2.out.cell (i - 2) (by omega)
          have c0 := F2.out.cell i (by omega)
          have cf : wr.frozen? ⟨w.heap.size + 2, i, none⟩ = false := frozen_of_row _ _ _ _ _ F2.out
          rw [hg _ (by omega)] at c16 c15 c7 c2
          have b16 := getD_lt _ hLb (i - 16)
          have b15 := getD_lt _ hLb (i - 15)
          have b7 := getD_lt _ hLb (i - 7)
          have b2 := getD_lt _ hLb (i - 2)
          have HLl := Lib.hid hLl
          clear hLb hLl hf hg
          generalize hL : schedN (words16 bl) (i - 16) = L at *
          have HL := Lib.hid hL
          clear hL
          generalize (fill64 L).getD i 0 = xz at *
          generalize L.getD (i - 16) 0 = x16 at *
          generalize L.getD (i - 15) 0 = x15 at *
          generalize L.getD (i - 7) 0 = x7 at *
          generalize L.getD (i - 2) 0 = x2 at *
          have S0 := Lib.hid (sig0_walk x15 b15)
          have S1 := Lib.hid (sig1_walk x2 b2)
          have l15 : (i : Int) - 15 < 64 := by omega
          have l2 : (i : Int) - 2 < 64 := by omega
          have l16 : (i : Int) - 16 < 64 := by omega
          have l7 : (i : Int) - 7 < 64 := by omega
          have p15 : 0 ≤ (i : Int) - 15 := by omega
          have p2 : 0 ≤ (i : Int) - 2 := by omega
          have p16 : 0 ≤ (i : Int) - 16 := by omega
          have p7 : 0 ≤ (i : Int) - 7 := by omega
          have r15 : (15 : Int) ≤ (i : Int) := by omega
          have r2 : (2 : Int) ≤ (i : Int) := by omega
          have r16 : (16 : Int) ≤ (i : Int) := by omega
          have r7 : (7 : Int) ≤ (i : Int) := by omega
          have t15 : ((i : Int) - 15).toNat = i - 15 := by omega
          have t2 : ((i : Int) - 2).toNat = i - 2 := by omega
          have t16 : ((i : Int) - 16).toNat = i - 16 := by omega
          have t7 : ((i : Int) - 7).toNat = i - 7 := by omega
          have e15 : IntKind.i64.wrap ((i : Int) - 15) = (i : Int) - 15 := IntWalk.i64_in _ (by omega)
          have e2 : IntKind.i64.wrap ((i : Int) - 2) = (i : Int) - 2 := IntWalk.i64_in _ (by omega)
          have e16 : IntKind.i64.wrap ((i : Int) - 16) = (i : Int) - 16 := IntWalk.i64_in _ (by omega)
          have e7 : IntKind.i64.wrap ((i : Int) - 7) = (i : Int) - 7 := IntWalk.i64_in _ (by omega)
          go_wp2_with fail
          go_quiet ((go_at_call 102; exact rotate_quiet _ _ _ _ b15 (by omega) (by omega)))
          go_wp2_with fail
          rw [S0.out]
          obtain ⟨w2, hw2, f16, f7, f2, f0, ff, G1, G2, bR2⟩ : ∃ w2, wr.drewN nq = w2 ∧ w2.cell? ⟨w.heap.size + 2, i - 16, none⟩ = some (.int .u32 (x16 : Int)) ∧ w2.cell? ⟨w.heap.size + 2, i - 7, none⟩ = some (.int .u32 (x7 : Int)) ∧ w2.cell? ⟨w.heap.size + 2, i - 2, none⟩ = some (.int .u32 (x2 : Int)) ∧
              w2.cell? ⟨w.heap.size + 2, i, none⟩ = some (.int .u32 (xz : Int)) ∧ w2.frozen? ⟨w.heap.size + 2, i, none⟩ = false ∧ Hid (Arr32 w2 (w.heap.size + 1) 138 (fill64 [])) ∧ Hid (Arr32 w2 (w.heap.size + 2) 138 (fill64 L)) ∧ Below w.heap.size w w2 :=
            ⟨_, rfl, c16, c7, c2, c0, cf, Lib.hid F1.out, Lib.hid F2.out, below_drewN bR nq⟩
          rw [hw2]
          clear hw2 c16 c15 c7 c2 c0 cf F1 F2 bR nq
          go_quiet ((go_at_call 102; exact rotate_quiet _ _ _ _ b2 (by omega) (by omega)))
          go_wp2_with fail
          rw [S1.out]
          obtain ⟨w3, hw3, g16, g7, g0, gf, K1, K2, bR3⟩ : ∃ w3, w2.drewN nq = w3 ∧ w3.cell? ⟨w.heap.size + 2, i - 16, none⟩ = some (.int .u32 (x16 : Int)) ∧ w3.cell? ⟨w.heap.size + 2, i - 7, none⟩ = some (.int .u32 (x7 : Int)) ∧
              w3.cell? ⟨w.heap.size + 2, i, none⟩ = some (.int .u32 (xz : Int)) ∧ w3.frozen? ⟨w.heap.size + 2, i, none⟩ = false ∧ Hid (Arr32 w3 (w.heap.size + 1) 138 (fill64 [])) ∧ Hid (Arr32 w3 (w.heap.size + 2) 138 (fill64 L)) ∧ Below w.heap.size w w3 :=
            ⟨_, rfl, f16, f7, f0, ff, Lib.hid G1.out, Lib.hid G2.out, below_drewN bR2 nq⟩
          rw [hw3]
          clear hw3 f16 f7 f2 f0 ff G1 G2 bR2 nq
          go_region
          all_goals
            go_wp2_with fail
            have hy : ((x16 : Int) + ((sig0 x15 : Nat) : Int) + (x7 : Int) + ((sig1 x2 : Nat) : Int)) % 4294967296 = ((nextW L : Nat) : Int) := by rw [HN.out]; omega
            rw [hy]
            have bS : Below w.heap.size w (w3.setCell ⟨w.heap.size + 1 + 1, i, none⟩ (.int .u32 ((nextW L : Nat) : Int))).drew := (bR3.setCell (by simp; omega) _).drew
            have h1 : Arr32 (w3.setCell ⟨w.heap.size + 1 + 1, i, none⟩ (.int .u32 ((nextW L : Nat) : Int))).drew (w.heap.size + 1) 138 (fill64 []) :=
              (heap_setCell_other _ _ _ _ (by simp)).trans K1.out
            have h2 : Arr32 (w3.setCell ⟨w.heap.size + 1 + 1, i, none⟩ (.int .u32 ((nextW L : Nat) : Int))).drew (w.heap.size + 2) 138 (fill64 (schedN (words16 bl) (i + 1 - 16))) := by
              have h := K2.out.set i (nextW L)
              have h2 := fill64_set L (nextW L) (by rw [HLl.out]; omega)
              rw [HLl.out] at h2
              rw [h2, ← Hnext.out] at h
              exact h
            exact ⟨⟨i + 1, by omega, by omega, by go_num, Lib.hid h1, Lib.hid h2, bS⟩, by simp [intOf]; omega⟩
        · obtain rfl : i = 64 := by omega
          have hfull : fill64 (schedN (words16 bl) (64 - 16)) = schedN (words16 bl) 48 := fill64_full _ hLl
          have Hw : Hid (wr.heap[w.heap.size + 1 + 1]? = some (.cells (cells32 (schedN (words16 bl) 48)).toArray 138 (0, 0))) := Lib.hid (by
            have h := F2.out
            rw [hfull] at h
            exact h)
          have HL48 := Lib.hid (show (schedN (words16 bl) 48).length = 64 from hLl)
          clear hfull hLl hlt hi1 hi2
          generalize hW : schedN (words16 bl) 48 = W at *
          have hz : (cells32 W).toArray.size = 64 := by simp [cells32_length, HL48.out]
          have hi : (Tryz.prog.info? 138).map (·.size) = some (cells32 W).toArray.size := (show (Tryz.prog.info? 138).map (·.size) = some 64 from by kernel_rfl).trans (by rw [hz])
          have hz0 : (cells32 (fill64 [])).toArray.size = (cells32 W).toArray.size := by rw [hz]; rfl
          have hone : (cells32 W).toArray.all (·.oneCell') = true := cells32_one W
          have F1' := F1.out
          unfold Arr32 at F1'
          go_wp2_with (first
            | (refine wpList_load_row rfl 138 _ rfl (w.heap.size + 1 + 1) rfl _ _ _ _ Hw.out Tryz.underlying138 rfl hi ?_)
            | (refine wpList_store_row rfl 138 _ _ rfl (w.heap.size + 1) (cells32 W).toArray rfl rfl 138 (cells32 (fill64 [])).toArray F1' hi hz0 hone ?_))
          refine bodyPost_ret (v := .agg (cells32 W).toArray) ?_ rfl ?_
          · exact results_cell_row rfl _ _ (w.heap.size + 1) 138 (cells32 W).toArray (0, 0) _ rfl (setRow_heap wr (w.heap.size + 1) (cells32 (fill64 [])).toArray (cells32 W).toArray 138 (0, 0) F1') Tryz.underlying138 rfl hi
          · exact ⟨by rw [hW], below_setRow bR _ _ (by omega)⟩
end Go.Proofs.YtnndnjnpkjpkpaaGreatDoor
namespace Go.Proofs.YtnndnjnpkjpkpaaGreatDoor
open Go.RowKit
/-- The table of constants reads as the program lays it. -/
def Konst (w : World) : Prop := WordsAt w 0 0 shaK
theorem Konst.keep {w w' : World} (h : Konst w) (hb : Below w.heap.size w w') : Konst w' := WordsAt.keep h hb
theorem Konst.lt {w : World} (h : Konst w) : 0 < w.heap.size := lt_of_cell (h 0 (by decide))

theorem rotate_at (x : Nat) (z : Int) (w : World) (hx : x < 4294967296) (h1 : 1 ≤ z) (hn : z ≤ 31) :
    Calls Tryz.prog 102 #[.int .u32 (x : Int), .int .i64 z] w fun e w' => e = .returned (.int .u32 ((rotN x z.toNat : Nat) : Int)) ∧ w' = w.drewN 1 := by
  obtain ⟨n, rfl⟩ := Int.eq_ofNat_of_zero_le (show 0 ≤ z by omega)
  exact rotate_calls x n _ hx (by omega) (by omega)

/-- 8 zero words, as the walk lays them. -/
abbrev zeros8 : Array Value := #[.int .u32 0, .int .u32 0, .int .u32 0, .int .u32 0, .int .u32 0, .int .u32 0, .int .u32 0, .int .u32 0]
theorem built8 (a b c d e f g h : Int) : Tryz.prog.built 102 [(0, .int .u32 a), (1, .int .u32 b), (2, .int .u32 c), (3, .int .u32 d), (4, .int .u32 e), (5, .int .u32 f), (6, .int .u32 g), (7, .int .u32 h)] =
    some #[.int .u32 a, .int .u32 b, .int .u32 c, .int .u32 d, .int .u32 e, .int .u32 f, .int .u32 g, .int .u32 h] := by kernel_rfl
theorem wpList_build8 {ops : Array Oper} {rest : List Oper} {o : Oper} {a : Act} {w : World} {Q : Exit → Act → World → Prop} (hg : o.guard = none) (x0 x1 x2 x3 x4 x5 x6 x7 : Operand)
    (ho : o.op = .build 102 #[(0, x0), (1, x1), (2, x2), (3, x3), (4, x4), (5, x5), (6, x6), (7, x7)]) (n0 n1 n2 n3 n4 n5 n6 n7 : Int)
    (h0 : a.eval x0 = .int .u32 n0) (h1 : a.eval x1 = .int .u32 n1) (h2 : a.eval x2 = .int .u32 n2) (h3 : a.eval x3 = .int .u32 n3)
    (h4 : a.eval x4 = .int .u32 n4) (h5 : a.eval x5 = .int .u32 n5) (h6 : a.eval x6 = .int .u32 n6) (h7 : a.eval x7 = .int .u32 n7)
    (h : wpList Tryz.prog ops Q rest (a.put o.dst (.agg #[.int .u32 n0, .int .u32 n1, .int .u32 n2, .int .u32 n3, .int .u32 n4, .int .u32 n5, .int .u32 n6, .int .u32 n7])) w) : wpList Tryz.prog ops Q (o :: rest) a w := by
  have e0 : ((#[(0, x0), (1, x1), (2, x2), (3, x3), (4, x4), (5, x5), (6, x6), (7, x7)] : Array (Nat × Operand)).map fun (i, x) => (i, a.eval x)).toList =
      [(0, a.eval x0), (1, a.eval x1), (2, a.eval x2), (3, a.eval x3), (4, a.eval x4), (5, a.eval x5), (6, a.eval x6), (7, a.eval x7)] := by simp
  have e : Tryz.prog.built 102 ((#[(0, x0), (1, x1), (2, x2), (3, x3), (4, x4), (5, x5), (6, x6), (7, x7)] : Array (Nat × Operand)).map fun (i, x) => (i, a.eval x)).toList =
      some #[.int .u32 n0, .int .u32 n1, .int .u32 n2, .int .u32 n3, .int .u32 n4, .int .u32 n5, .int .u32 n6, .int .u32 n7] := by
    rw [e0, h0, h1, h2, h3, h4, h5, h6, h7]
    exact built8 _ _ _ _ _ _ _ _
  exact wpList_build hg _ _ ho (by rw [e]; rfl) (by rw [e]; exact h)

set_option maxRecDepth 100000 in
set_option maxHeartbeats 4000000 in
theorem compress_calls (v : Eight) (bl : List UInt8) (w : World) (hK : Konst w) (hok : okE v) (hl : bl.length = 64) :
    Calls Tryz.prog 77 #[.agg (cells32 (listE v)).toArray, .agg (cells8 bl).toArray] w fun e W' => e = .returned (.agg (cells32 (listE (blockE v bl))).toArray) ∧ Below w.heap.size w W' := by
  have HK := Lib.hid hK
  have Hok := Lib.hid hok
  have Hl := Lib.hid hl
  clear hK hok hl
  have hi62 : (Tryz.prog.info? 106).map (·.size) = some (cells8 bl).toArray.size := (show (Tryz.prog.info? 106).map (·.size) = some 64 from by kernel_rfl).trans (by simp [cells8_length, Hl.out])
  go_enter Tryz.func77, Tryz.ntmps77
  have b0 : Below w.heap.size w (((w.alloc (.cells (cells32 (listE v)).toArray 102)).alloc (.cells (cells8 bl).toArray 106)).alloc (.cells zeros8 102)) := (alloc3 w _ _ _).2.2.2.2
  go_wp2_with (refine wpList_load_row rfl 106 _ rfl (w.heap.size + 1) rfl 106 (cells8 bl).toArray (0, 0) _ (alloc3 w _ _ _).2.2.1 Tryz.underlying106 rfl hi62 ?_)
  obtain ⟨W0, hW0, f0, f2, b0⟩ : ∃ W0, (((w.alloc (.cells (cells32 (listE v)).toArray 102)).alloc (.cells (cells8 bl).toArray 106)).alloc (.cells zeros8 102)) = W0 ∧
      Arr32 W0 w.heap.size 102 (listE v) ∧ Arr32 W0 (w.heap.size + 2) 102 [0, 0, 0, 0, 0, 0, 0, 0] ∧ Below w.heap.size w W0 := ⟨_, rfl, (alloc3 w _ _ _).2.1, (alloc3 w _ _ _).2.2.2.1, b0⟩
  rw [hW0]
  have z0 : W0.heap.size = w.heap.size + 3 := by rw [← hW0]; simp
  clear hW0
  refine (schedule_calls bl W0 Hl.out).mono ?_
  rintro e W1 ⟨rfl, b1⟩
  have HS := Lib.hid (show (schedN (words16 bl) 48).length = 64 from by rw [schedN_length]; simp [words16])
  have HSb := Lib.hid (schedN_lt (words16 bl) 48 (words16_lt bl))
  obtain ⟨S, hS⟩ : ∃ S, schedN (words16 bl) 48 = S := ⟨_, rfl⟩
  rw [hS] at HS HSb ⊢
  have HSq := Lib.hid hS
  clear hS
  have hi69 : (Tryz.prog.info? 138).map (·.size) = some (cells32 S).toArray.size := (show (Tryz.prog.info? 138).map (·.size) = some 64 from by kernel_rfl).trans (by simp [cells32_length, HS.out])
  have hzz : zeros64.size = (cells32 S).toArray.size := by simp [cells32_length, HS.out]
  go_wp2_with (refine wpList_store_row rfl 138 _ _ rfl W1.heap.size (cells32 S).toArray rfl rfl 138 zeros64 (heap_alloc_new W1 _) hi69 hzz (cells32_one S) ?_)
  obtain ⟨W2, hW2, c0, c2, cS, K2, b2⟩ : ∃ W2, (W1.alloc (.cells zeros64 138)).setRow W1.heap.size (cells32 S).toArray = W2 ∧ Hid (Arr32 W2 w.heap.size 102 (listE v)) ∧ Hid (Arr32 W2 (w.heap.size + 2) 102 [0, 0, 0, 0, 0, 0, 0, 0]) ∧
      Hid (Arr32 W2 W1.heap.size 138 S) ∧ Hid (Konst W2) ∧ Below w.heap.size w W2 := by
    have h1 : w.heap.size + 3 ≤ W1.heap.size := by rw [← z0]; exact b1.size
    have hb : Below w.heap.size w ((W1.alloc (.cells zeros64 138)).setRow W1.heap.size (cells32 S).toArray) := below_setRow ((b0.trans (b1.mono (by omega))).alloc (by omega) _) _ _ (by omega)
    refine ⟨_, rfl, Lib.hid ?_, Lib.hid ?_, Lib.hid ?_, Lib.hid (HK.out.keep hb), hb⟩
    · exact (setRow_other _ _ _ _ (by omega)).trans ((Below.heap_alloc _ _ _ (by omega)).trans ((b1.block _ (by omega)).trans f0))
    · exact (setRow_other _ _ _ _ (by omega)).trans ((Below.heap_alloc _ _ _ (by omega)).trans ((b1.block _ (by omega)).trans f2))
    · exact setRow_heap _ _ _ _ _ _ (heap_alloc_new W1 _)
  rw [hW2]
  have hG : w.heap.size + 3 ≤ W1.heap.size := by rw [← z0]; exact b1.size
  generalize W1.heap.size = G at *
  clear hW2 b0 b1 z0 f0 f2 W1 W0 hi62 hi69 hzz
  have r0 := c0.out.cell 0 (show 0 < 8 by decide)
  have r1 := c0.out.cell 1 (show 1 < 8 by decide)
  have r2 := c0.out.cell 2 (show 2 < 8 by decide)
  have r3 := c0.out.cell 3 (show 3 < 8 by decide)
  have r4 := c0.out.cell 4 (show 4 < 8 by decide)
  have r5 := c0.out.cell 5 (show 5 < 8 by decide)
  have r6 := c0.out.cell 6 (show 6 < 8 by decide)
  have r7 := c0.out.cell 7 (show 7 < 8 by decide)
  simp only [listE, List.getD_cons_zero, List.getD_cons_succ] at r0 r1 r2 r3 r4 r5 r6 r7
  go_wp2_with fail
  go_quiet (fail)
  go_wp2_with fail
  obtain ⟨W3, hW3, d0, d2, dS, K3, b3⟩ : ∃ W3, W2.drewN nq = W3 ∧ Hid (Arr32 W3 w.heap.size 102 (listE v)) ∧ Hid (Arr32 W3 (w.heap.size + 2) 102 [0, 0, 0, 0, 0, 0, 0, 0]) ∧
      Hid (Arr32 W3 G 138 S) ∧ Hid (Konst W3) ∧ Below w.heap.size w W3 := ⟨_, rfl, Lib.hid c0.out, Lib.hid c2.out, Lib.hid cS.out, Lib.hid K2.out, below_drewN b2 nq⟩
  rw [hW3]
  clear hW3 c0 c2 cS K2 b2 r0 r1 r2 r3 r4 r5 r6 r7 nq W2 HK
  have hWb : ∀ j, S.getD j 0 < 4294967296 := fun j => getD_lt _ HSb.out j
  have hKb : ∀ j, shaK.getD j 0 < 4294967296 := getD_lt _ (by decide)
  have HWB := Lib.hid hWb
  have HKB := Lib.hid hKb
  have Hbl : Hid (blockE v bl = addE v (roundsN S v 64)) := Lib.hid (by rw [← HSq.out]; rfl)
  clear hWb hKb HSb HSq
  go_loopw [6, 7, 8, 9, 10, 11, 12, 13, 35] (fun sa sb sc sd se sf sg sh iv wr => ∃ (i : Nat) (x : Eight), i ≤ 64 ∧ iv = .int .i64 i ∧ sa = .int .u32 (x.a : Int) ∧ sb = .int .u32 (x.b : Int) ∧ sc = .int .u32 (x.c : Int) ∧ sd = .int .u32 (x.d : Int) ∧
      se = .int .u32 (x.e : Int) ∧ sf = .int .u32 (x.f : Int) ∧ sg = .int .u32 (x.g : Int) ∧ sh = .int .u32 (x.h : Int) ∧ Hid (roundsN S v i = x) ∧ Hid (okE x) ∧
      Hid (Arr32 wr w.heap.size 102 (listE v)) ∧ Hid (Arr32 wr (w.heap.size + 2) 102 [0, 0, 0, 0, 0, 0, 0, 0]) ∧ Hid (Arr32 wr G 138 S) ∧ Hid (Konst wr) ∧ Below w.heap.size w wr)
    (fun _ _ _ _ _ _ _ _ iv _ => 64 - (intOf iv).toNat)
  case atStart => exact ⟨0, v, by omega, rfl, rfl, rfl, rfl, rfl, rfl, rfl, rfl, rfl, Lib.hid rfl, Hok, d0, d2, dS, K3, b3⟩
  case round =>
    obtain ⟨i, x, hi, rfl, rfl, rfl, rfl, rfl, rfl, rfl, rfl, rfl, Hr, Ho, d0, d2, dS, K3, bR⟩ := hrel
    by_cases hlt : i < 64
    · obtain ⟨xa, xb, xc, xd, xe, xf, xg, xh⟩ := x
      have Hnext : Hid (roundsN S v (i + 1) = stepE ⟨xa, xb, xc, xd, xe, xf, xg, xh⟩ (shaK.getD i 0) (S.getD i 0)) := Lib.hid (by rw [← Hr.out]; rfl)
      have Hok2 : Hid (okE (stepE ⟨xa, xb, xc, xd, xe, xf, xg, xh⟩ (shaK.getD i 0) (S.getD i 0))) := Lib.hid (stepE_ok _ _ _ Ho.out)
      obtain ⟨o1, o2, o3, o4, o5, o6, o7, o8⟩ := Ho.out
      dsimp only at o1 o2 o3 o4 o5 o6 o7 o8
      dsimp only
      have ck := K3.out i (show i < 64 from hlt)
      have cw := dS.out.cell i (by rw [HS.out]; exact hlt)
      rw [Nat.zero_add] at ck
      have hkb := HKB.out i
      have hwb := HWB.out i
      clear Hr Ho
      generalize shaK.getD i 0 = K at *
      generalize S.getD i 0 = X at *
      go_wp2_with fail
      go_quiet ((go_at_call 102; exact rotate_quiet _ _ _ _ o5 (by omega) (by omega)))
      go_wp2_with fail
      rw [t_walk xa xb xc xd xe xf xg xh K X o5 o6 o7]
      obtain ⟨t, ht⟩ : ∃ t, tN ⟨xa, xb, xc, xd, xe, xf, xg, xh⟩ K X = t := ⟨_, rfl⟩
      have htb : t < 4294967296 := by rw [← ht]; exact Nat.mod_lt _ (by omega)
      rw [ht]
      have HT := Lib.hid ht
      clear ht ck cw hkb hwb
      obtain ⟨w2, hw2, e0, e2, eS, K4, bR2⟩ : ∃ w2, wr.drewN nq = w2 ∧ Hid (Arr32 w2 w.heap.size 102 (listE v)) ∧ Hid (Arr32 w2 (w.heap.size + 2) 102 [0, 0, 0, 0, 0, 0, 0, 0]) ∧ Hid (Arr32 w2 G 138 S) ∧ Hid (Konst w2) ∧ Below w.heap.size w w2 :=
        ⟨_, rfl, Lib.hid d0.out, Lib.hid d2.out, Lib.hid dS.out, Lib.hid K3.out, below_drewN bR nq⟩
      rw [hw2]
      clear hw2 d0 d2 dS K3 bR nq
      refine (rotate_at _ _ _ o1 (by omega) (by omega)).mono ?_
      rintro e w' ⟨rfl, rfl⟩
      go_wp2_with fail
      refine (rotate_at _ _ _ o1 (by omega) (by omega)).mono ?_
      rintro e w' ⟨rfl, rfl⟩
      go_wp2_with fail
      refine (rotate_at _ _ _ o1 (by omega) (by omega)).mono ?_
      rintro e w' ⟨rfl, rfl⟩
      rw [show (w2.drewN 2).drewN 1 = w2.drewN 3 from rfl]
      obtain ⟨w3, hw3, e0, e2, eS, K4, bR2⟩ : ∃ w3, w2.drewN 3 = w3 ∧ Hid (Arr32 w3 w.heap.size 102 (listE v)) ∧ Hid (Arr32 w3 (w.heap.size + 2) 102 [0, 0, 0, 0, 0, 0, 0, 0]) ∧ Hid (Arr32 w3 G 138 S) ∧ Hid (Konst w3) ∧ Below w.heap.size w w3 :=
        ⟨_, rfl, Lib.hid e0.out, Lib.hid e2.out, Lib.hid eS.out, Lib.hid K4.out, below_drewN bR2 3⟩
      rw [hw3]
      clear hw3
      go_wp2_with fail
      rw [u_walk xa xb xc xd xe xf xg xh o1 o2 o3]
      have h1 : ∀ u : Nat, ((t : Int) + (u : Int)) % 4294967296 = (((t + u) % 4294967296 : Nat) : Int) := fun u => by omega
      rw [h1]
      clear h1
      have h2 : ((xd : Int) + (t : Int)) % 4294967296 = (((xd + t) % 4294967296 : Nat) : Int) := by omega
      rw [h2]
      have hx : stepE ⟨xa, xb, xc, xd, xe, xf, xg, xh⟩ K X = ⟨(t + uN ⟨xa, xb, xc, xd, xe, xf, xg, xh⟩) % 4294967296, xa, xb, xc, (xd + t) % 4294967296, xe, xf, xg⟩ := by
        rw [← HT.out]; rfl
      exact ⟨⟨i + 1, stepE ⟨xa, xb, xc, xd, xe, xf, xg, xh⟩ K X, by omega, by go_num, by rw [hx], by rw [hx], by rw [hx], by rw [hx], by rw [hx], by rw [hx], by rw [hx], by rw [hx], Hnext, Hok2, e0, e2, eS, K4, bR2⟩, by simp [intOf]; omega⟩
    · obtain rfl : i = 64 := by omega
      have hz8 : (cells32 (listE (addE v x))).toArray.size = 8 := rfl
      have E2 := d2.out
      unfold Arr32 at E2
      have hi58 : (Tryz.prog.info? 102).map (·.size) = some 8 := by kernel_rfl
      have r0 := d0.out.cell 0 (show 0 < 8 by decide)
      have r1 := d0.out.cell 1 (show 1 < 8 by decide)
      have r2 := d0.out.cell 2 (show 2 < 8 by decide)
      have r3 := d0.out.cell 3 (show 3 < 8 by decide)
      have r4 := d0.out.cell 4 (show 4 < 8 by decide)
      have r5 := d0.out.cell 5 (show 5 < 8 by decide)
      have r6 := d0.out.cell 6 (show 6 < 8 by decide)
      have r7 := d0.out.cell 7 (show 7 < 8 by decide)
      simp only [listE, List.getD_cons_zero, List.getD_cons_succ] at r0 r1 r2 r3 r4 r5 r6 r7
      clear hlt hi HWB HKB Hok
      have hm : ∀ a b : Nat, ((a : Int) + (b : Int)) % 4294967296 = (((a + b) % 4294967296 : Nat) : Int) := fun a b => by omega
      have hvals : (#[Value.int IntKind.u32 (((v.a : Int) + (x.a : Int)) % 4294967296), .int .u32 (((v.b : Int) + (x.b : Int)) % 4294967296), .int .u32 (((v.c : Int) + (x.c : Int)) % 4294967296), .int .u32 (((v.d : Int) + (x.d : Int)) % 4294967296),
          .int .u32 (((v.e : Int) + (x.e : Int)) % 4294967296), .int .u32 (((v.f : Int) + (x.f : Int)) % 4294967296), .int .u32 (((v.g : Int) + (x.g : Int)) % 4294967296), .int .u32 (((v.h : Int) + (x.h : Int)) % 4294967296)] : Array Value) = (cells32 (listE (addE v x))).toArray := by
        simp only [hm]; rfl
      clear hm
      go_wp2_with (first
        | (refine wpList_build8 rfl _ _ _ _ _ _ _ _ rfl _ _ _ _ _ _ _ _ rfl rfl rfl rfl rfl rfl rfl rfl ?_; rw [hvals])
        | (refine wpList_store_row rfl 102 _ _ rfl (w.heap.size + 1 + 1) (cells32 (listE (addE v x))).toArray rfl rfl 102 (cells32 [0, 0, 0, 0, 0, 0, 0, 0]).toArray E2 hi58 rfl (cells32_one _) ?_))
      refine bodyPost_ret (v := .agg (cells32 (listE (blockE v bl))).toArray) ?_ rfl ?_
      · rw [Hbl.out, Hr.out]
        exact results_cell_row rfl _ _ (w.heap.size + 1 + 1) 102 (cells32 (listE (addE v x))).toArray (0, 0) _ rfl (setRow_heap wr (w.heap.size + 1 + 1) (cells32 [0, 0, 0, 0, 0, 0, 0, 0]).toArray (cells32 (listE (addE v x))).toArray 102 (0, 0) E2) Tryz.underlying102 rfl hi58
      · exact ⟨rfl, below_setRow bR _ _ (by omega)⟩
end Go.Proofs.YtnndnjnpkjpkpaaGreatDoor
