/- The walk of WireSumAffine: for all three strings it returns true, and nothing that was there has changed. Conditions: the strings' lengths fit an int, the table reads as the program lays it. -/
import Derived.RegionTactic
import Derived.ChangeAlike
import Derived.BigRegion
import Derived.BigQuiet
import Derived.Deep.QuietTactic
import Derived.Laws.MakeOwn
import Derived.Test.YthhjdcpodaledaaDoorTruncWalk
namespace Go.Proofs.YthhjdcpodaledaaDoor
open Go.RowKit

theorem run_min4 (ts : Array TypeId) (t : TypeId) (x y z u : Int) (w : World) : (Builtin.min_ ts t #[.int .i64 x, .int .i64 y, .int .i64 z, .int .i64 u]).run Tryd.prog w =
    .ok (.int .i64 (if u < (if z < (if y < x then y else x) then z else (if y < x then y else x)) then u else (if z < (if y < x then y else x) then z else (if y < x then y else x)))) w := by
  simp [Builtin.min_, Builtin.min2]

theorem xor64 (x y : Nat) (hx : x < 9223372036854775808) (hy : y < 9223372036854775808) : bits .xor .i64 (x : Int) (y : Int) = ((x ^^^ y : Nat) : Int) := by
  have hz : x ^^^ y < 2 ^ 63 := Nat.xor_lt_two_pow (by omega) (by omega)
  show IntKind.i64.wrap ((BitVec.ofInt 64 (x : Int) ^^^ BitVec.ofInt 64 (y : Int)).toNat : Int) = _
  rw [BitVec.toNat_xor, ofInt64 x (by omega), ofInt64 y (by omega)]
  exact wrap_small _ (by omega) (by omega)

theorem Table.drewN {w : World} (h : Table w) (n : Nat) : Table (w.drewN n) := fun i hi => h i hi

theorem sum_quiet (s : ByteArray) (w : World) (n : Nat) (hT : Table w) (hs : s.size ≤ 9223372036854775807) :
    Calls Tryd.prog 21 #[.string s] (w.drewN n) fun e w'' => e = .returned (.int .i64 ((sumF s.data.toList : Nat) : Int)) ∧ ∃ m, w'' = w.drewN m :=
  Calls.quiet_of_same ((sum_calls s _ (hT.drewN n) hs).mono fun _ _ ⟨h1, h2⟩ => ⟨h1, h2.symm⟩)

theorem new_row (w : World) (M : Array Value) (t : TypeId) (i : Nat) (h : i < M.size) :
    (∃ v, (w.alloc (.cells M t)).cell? ⟨w.heap.size, i, none⟩ = some v) ∧ (w.alloc (.cells M t)).frozen? ⟨w.heap.size, i, none⟩ = false := by
  have e1 := World.alloc_heap_new w (.cells M t)
  refine ⟨⟨M[i], ?_⟩, ?_⟩
  · rw [World.cell?_alloc_new, Array.getElem?_eq_getElem h]
  · generalize w.alloc (.cells M t) = w2 at e1 ⊢
    simp [World.frozen?, e1]

/-- A row of N cells in block X that may be written; the first k hold f. -/
def Row (w : World) (X N k : Nat) (f : Nat → Value) : Prop :=
  ∀ i : Nat, i < N → (∃ v, w.cell? ⟨X, i, none⟩ = some v) ∧ w.frozen? ⟨X, i, none⟩ = false ∧ (i < k → w.cell? ⟨X, i, none⟩ = some (f i))
theorem Row.step {w : World} {X N k : Nat} {f : Nat → Value} (h : Row w X N k f) (hk : k < N) : Row (w.setCell ⟨X, k, none⟩ (f k)).drew X N (k + 1) f := by
  intro i hi
  obtain ⟨⟨v, h1⟩, h2, h3⟩ := h i hi
  obtain ⟨⟨u, g1⟩, _, _⟩ := h k hk
  have hfz : (w.setCell ⟨X, k, none⟩ (f k)).drew.frozen? ⟨X, i, none⟩ = false := by
    show (w.setCell ⟨X, k, none⟩ (f k)).frozen? ⟨X, i, none⟩ = false
    rw [World.frozen?_setCell]; exact h2
  by_cases e : i = k
  · subst e
    have hc : (w.setCell ⟨X, i, none⟩ (f i)).drew.cell? ⟨X, i, none⟩ = some (f i) := cell_same w ⟨X, i, none⟩ (f i) v h1
    exact ⟨⟨_, hc⟩, hfz, fun _ => hc⟩
  · have hc : (w.setCell ⟨X, k, none⟩ (f k)).drew.cell? ⟨X, i, none⟩ = w.cell? ⟨X, i, none⟩ := cell_other w ⟨X, k, none⟩ ⟨X, i, none⟩ (f k) (by simp only [ne_eq, Addr.mk.injEq]; omega)
    exact ⟨⟨v, hc.trans h1⟩, hfz, fun hl => hc.trans (h3 (by omega))⟩

theorem ext_list (s : ByteArray) (N : Nat) : (s.extract 0 N).data.toList = s.data.toList.take N := by
  rw [Lib.extract_data]; simp

/-- Byte i of the three strings' XOR. -/
theorem xor3_at (l m n : List UInt8) (h1 : l.length = m.length) (h2 : l.length = n.length) (i : Nat) (hi : i < l.length) :
    ((xor3 l m n).getD i 0).toNat = (l.getD i 0).toNat ^^^ (m.getD i 0).toNat ^^^ (n.getD i 0).toNat := by
  induction l generalizing m n i with
  | nil => simp at hi
  | cons a l ih =>
    match m, n, h1, h2 with
    | b :: m, c :: n, h1, h2 =>
      cases i with
      | zero =>
        have ha := a.toNat_lt
        have hb := b.toNat_lt
        have hc := c.toNat_lt
        have hx : a.toNat ^^^ b.toNat ^^^ c.toNat < 2 ^ 8 := Nat.xor_lt_two_pow (Nat.xor_lt_two_pow ha hb) hc
        simp only [xor3, List.getD_cons_zero]
        rw [UInt8.toNat_ofNat']
        exact Nat.mod_eq_of_lt hx
      | succ i =>
        simp only [xor3, List.getD_cons_succ]
        exact ih m n (by simpa using h1) (by simpa using h2) i (by simpa using hi)

theorem take_at (s : ByteArray) (N i : Nat) (h : i < N) (hs : i < s.size) : (s.data.toList.take N).getD i 0 = s[i] := by
  rw [List.getD_eq_getElem?_getD, List.getElem?_take_of_lt h, List.getElem?_eq_getElem (by simpa using hs)]
  rfl

set_option maxRecDepth 100000 in
set_option maxHeartbeats 4000000 in
theorem aff_walk (a b c : ByteArray) (w : World) (hT : Table w) (z1 : a.size ≤ 9223372036854775807) (z2 : b.size ≤ 9223372036854775807) (z3 : c.size ≤ 9223372036854775807) :
    Calls Tryd.prog 9 #[.string a, .string b, .string c] w fun e w' => e = .returned (.bool true) ∧ Below w.heap.size w w' := by
  obtain ⟨N, hN, l1, l2, l3, l4⟩ : ∃ N : Nat, (∀ ts t W, (Builtin.min_ ts t #[.int .i64 (a.size : Int), .int .i64 (b.size : Int), .int .i64 (c.size : Int), .int .i64 200]).run Tryd.prog W = .ok (.int .i64 (N : Int)) W) ∧ N ≤ a.size ∧ N ≤ b.size ∧ N ≤ c.size ∧ N ≤ 200 := by
    refine ⟨min (min (min a.size b.size) c.size) 200, fun ts t W => ?_, by omega, by omega, by omega, by omega⟩
    rw [run_min4]
    congr 2
    split <;> split <;> split <;> omega
  obtain ⟨i0, hi, hz0, hz1, hz2⟩ := info_parts (show (Tryd.prog.info? 5).map (fun i => (i.zero, i.size, i.bytes)) = some (some (.int .u8 0), 1, 1) from by kernel_rfl)
  obtain ⟨M, hM⟩ : ∃ M, M = madeCells (Value.int .u8 0).cells (((N : Nat) : Int).toNat * i0.size) := ⟨_, rfl⟩
  have hMs : M.size = N := by rw [hM, size_madeCells, hz1]; simp
  have hmk : ∀ W : World, (Instr.makeSlice 38 (.int .i64 (N : Int)) (.int .i64 (N : Int))).run Tryd.prog W = .ok (.slice (some ⟨W.heap.size, 0, none⟩) N N) (W.alloc (.cells M 5)) := fun W => by
    have h := run_make (P := Tryd.prog) W 38 5 i0 (.int .u8 0) Tryd.underlying38 hi hz0 .i64 .i64 (N : Int) (N : Int) (by omega) (by omega) (by rw [hz2]; omega) (by omega)
    rw [← hM] at h
    simpa using h
  have HMs := Lib.hid hMs
  clear hM hMs hi hz0 hz1 hz2
  go_enter Tryd.func9, Tryd.ntmps9
  go_wp2_with fail
  refine (sane_calls _ hT).mono ?_
  rintro e w1 ⟨rfl, bA⟩
  go_wp2_with fail
  have X0 : ∀ i : Nat, i < N → (∃ v, (w1.alloc (.cells M 5)).cell? ⟨w1.heap.size, i, none⟩ = some v) ∧ (w1.alloc (.cells M 5)).frozen? ⟨w1.heap.size, i, none⟩ = false :=
    fun i hi => new_row w1 M _ i (by rw [HMs.out]; exact hi)
  have bB : Below w.heap.size w (w1.alloc (.cells M 5)) := bA.alloc bA.size _
  have hX : w.heap.size ≤ w1.heap.size := bA.size
  clear bA hmk hN
  generalize w1.alloc (.cells M 5) = w2 at X0 bB ⊢
  generalize w1.heap.size = X at X0 hX ⊢
  obtain ⟨L, hL⟩ : ∃ L, xor3 (a.data.toList.take N) (b.data.toList.take N) (c.data.toList.take N) = L := ⟨_, rfl⟩
  have HL := Lib.hid hL
  clear hL
  have HX0 := Lib.hid X0
  clear X0
  have HLl : Hid (L.length = N) := Lib.hid (by
    rw [← HL.out, (xor3_val _ _ _ (by simp; omega) (by simp; omega)).1]; simp; omega)
  go_loopw [10] (fun iv wr => ∃ k : Nat, k ≤ N ∧ iv = .int .i64 k ∧ Below w.heap.size w wr ∧ Row wr X N k (fun i => .int .u8 (((L.getD i 0).toNat : Nat) : Int))) (fun iv _ => N - (intOf iv).toNat)
  case atStart => exact ⟨0, by omega, rfl, bB, fun i hi => ⟨(HX0.out i hi).1, (HX0.out i hi).2, fun h => by omega⟩⟩
  case round =>
    obtain ⟨k, hk, rfl, bR, HR⟩ := hrel
    clear bB
    by_cases hlt : k < N
    · have i1 : (k : Int) < (a.size : Int) := by omega
      have i2 : (k : Int) < (b.size : Int) := by omega
      have i3 : (k : Int) < (c.size : Int) := by omega
      obtain ⟨⟨v, hv⟩, hf, _⟩ := HR k hlt
      have x1 := u8_xor_nat a[k].toNat b[k].toNat a[k].toNat_lt b[k].toNat_lt
      have hp : a[k].toNat ^^^ b[k].toNat < 256 := Nat.xor_lt_two_pow (n := 8) a[k].toNat_lt b[k].toNat_lt
      have x2 := u8_xor_nat (a[k].toNat ^^^ b[k].toNat) c[k].toNat hp c[k].toNat_lt
      have HB : Hid ((L.getD k 0).toNat = a[k].toNat ^^^ b[k].toNat ^^^ c[k].toNat) := Lib.hid (by
        rw [← HL.out, xor3_at _ _ _ (by simp; omega) (by simp; omega) k (by simp; omega), take_at a N k hlt (by omega), take_at b N k hlt (by omega), take_at c N k hlt (by omega)])
      clear hp
      go_wp2_with fail
      go_region
      all_goals go_wp2_with fail
      go_roundw
      case rel =>
        refine ⟨k + 1, by omega, by go_num, ((bR.setCell (p := ⟨X, k, none⟩) hX _).drew), ?_⟩
        rw [← HB.out]
        exact HR.step hlt
      case measure => simp [intOf]; omega
    · obtain rfl : k = N := by omega
      have hkk : (k : Int) ≤ (k : Int) := by omega
      have hcv : ∀ nq, (convert 38 9 (.slice (some ⟨X, 0, none⟩) k k)).run Tryd.prog (wr.drewN nq) = .ok (.string ⟨L.toArray⟩) (wr.drewN nq) := fun nq => by
        have h := run_convert_bytes_arg (P := Tryd.prog) (wr.drewN nq) 38 5 Tryd.underlying38 Tryd.underlying5 X 0 k k (L.map fun b => ((b.toNat : Nat) : Int)) (by simpa using HLl.out) (fun i hi => by
          rw [Nat.zero_add]
          refine (show (wr.drewN nq).cell? ⟨X, i, none⟩ = wr.cell? ⟨X, i, none⟩ from rfl).trans (((HR i hi).2.2 hi).trans ?_)
          simp [List.getElem?_map]
          have := HLl.out
          rw [List.getElem?_eq_getElem (by omega)]; rfl) 9 Tryd.underlying9
        rw [str_bytes] at h
        exact h
      have hTr : Table wr := hT.below bR hT.lt
      have j1 : (k : Int) ≤ (a.size : Int) := by omega
      have j2 : (k : Int) ≤ (b.size : Int) := by omega
      have j3 : (k : Int) ≤ (c.size : Int) := by omega
      have q0 : (⟨L.toArray⟩ : ByteArray).size ≤ 9223372036854775807 := by rw [mk_size, HLl.out]; omega
      have q1 : (a.extract 0 k).size ≤ 9223372036854775807 := Nat.le_trans (cut_size _ _) (by omega)
      have q2 : (b.extract 0 k).size ≤ 9223372036854775807 := Nat.le_trans (cut_size _ _) (by omega)
      have q3 : (c.extract 0 k).size ≤ 9223372036854775807 := Nat.le_trans (cut_size _ _) (by omega)
      go_wp2_with fail
      go_quiet ((go_at_call 21; exact sum_quiet _ _ _ hTr (by first | exact q0 | exact q1 | exact q2 | exact q3)))
      go_wp2_with fail
      go_ret
      refine ⟨ret_bool ?_, below_drewN bR nq⟩
      have u1 := sumF_lt (a.data.toList.take k)
      have u2 := sumF_lt (b.data.toList.take k)
      have u3 := sumF_lt (c.data.toList.take k)
      have u4 : sumF (a.data.toList.take k) ^^^ sumF (b.data.toList.take k) < 4294967296 := Nat.xor_lt_two_pow (n := 32) u1 u2
      rw [xor64 _ _ (by omega) (by omega), xor64 _ _ (by omega) (by omega), ← sumF_affine _ _ _ (by simp; omega) (by simp; omega), HL.out]
      simp
end Go.Proofs.YthhjdcpodaledaaDoor
