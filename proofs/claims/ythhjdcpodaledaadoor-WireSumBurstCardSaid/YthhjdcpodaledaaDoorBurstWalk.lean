/- The walk of WireSumBurst: for every string, integer and pattern it returns true, and nothing that was there has changed. Conditions: the integer is an int64, the pattern a uint32, the table reads as the program lays it. -/
import Derived.Lib.ConvBytes
import Derived.Test.YthhjdcpodaledaaDoorAffWalk
namespace Go.Proofs.YthhjdcpodaledaaDoor
open Go.RowKit

theorem bytesWorld_below (w : World) (e : TypeId) (s : ByteArray) : Below w.heap.size w (Lib.bytesWorld w e s) :=
  ⟨rfl, rfl, rfl, by rw [Lib.bytesWorld_size]; omega, fun j hj => Lib.bytesWorld_at_old w e s j hj⟩
theorem bytesCells_size (w : World) (e : TypeId) (s : ByteArray) : s.size ≤ (Lib.bytesCells w e s).size := by
  unfold Lib.bytesCells
  rw [Array.size_append, Array.size_map]
  exact Nat.le_add_right _ _
theorem bytesWorld_free (w : World) (e : TypeId) (s : ByteArray) (j : Nat) (hj : j < s.size) : (Lib.bytesWorld w e s).frozen? ⟨w.heap.size, j, none⟩ = false := by
  have h := Lib.bytesWorld_at_new w e s
  have h2 := bytesCells_size w e s
  generalize Lib.bytesWorld w e s = W at h ⊢
  simp [World.frozen?, h]
  omega

/-- Block X holds the bytes l, which may be written. -/
def Bytes (w : World) (X : Nat) (l : List UInt8) : Prop :=
  ∀ i : Nat, i < l.length → w.cell? ⟨X, i, none⟩ = some (.int .u8 (((l.getD i 0).toNat : Nat) : Int)) ∧ w.frozen? ⟨X, i, none⟩ = false

theorem Bytes.step {w : World} {X : Nat} {l : List UInt8} (h : Bytes w X l) (j : Nat) (hj : j < l.length) (x : Nat) (hx : x < 256) :
    Bytes (w.setCell ⟨X, j, none⟩ (.int .u8 (x : Int))).drew X (l.set j (UInt8.ofNat x)) := by
  intro i hi
  rw [List.length_set] at hi
  obtain ⟨h1, h2⟩ := h i hi
  refine ⟨?_, ?_⟩
  · by_cases e : i = j
    · subst e
      refine (cell_same w ⟨X, i, none⟩ _ _ h1).trans ?_
      have hb : (UInt8.ofNat x).toNat = x := by simp; omega
      simp only [List.getD_eq_getElem?_getD, List.getElem?_set_self hi, Option.getD_some, hb]
    · refine (cell_other w ⟨X, j, none⟩ ⟨X, i, none⟩ _ (by simp only [ne_eq, Addr.mk.injEq]; omega)).trans ?_
      rw [h1]
      simp only [List.getD_eq_getElem?_getD, List.getElem?_set_ne (Ne.symm e)]
  · show (w.setCell ⟨X, j, none⟩ (.int .u8 (x : Int))).frozen? ⟨X, i, none⟩ = false
    rw [World.frozen?_setCell]; exact h2

theorem xor_shift (a b p : Nat) : (a ^^^ b) * 2 ^ p = a * 2 ^ p ^^^ b * 2 ^ p := by
  apply Nat.eq_of_testBit_eq
  intro i
  simp only [Nat.testBit_mul_two_pow, Nat.testBit_xor]
  by_cases h : p ≤ i <;> simp [h]

/-- One changed bit more. -/
theorem flip_step (l t0 : List UInt8) (p i D : Nat) (hk : (p + i) / 8 < l.length) (hD : D < 2 ^ i) (hv : val l = val t0 ^^^ D * 2 ^ p) :
    val (l.set ((p + i) / 8) (UInt8.ofNat ((l[(p + i) / 8]'hk).toNat ^^^ 2 ^ ((p + i) % 8)))) = val t0 ^^^ (D ^^^ 2 ^ i) * 2 ^ p ∧ D ^^^ 2 ^ i < 2 ^ (i + 1) ∧ D ^^^ 2 ^ i ≠ 0 := by
  refine ⟨?_, ?_, ?_⟩
  · rw [val_flip l (p + i) hk, hv, xor_shift, Nat.xor_assoc, ← Nat.pow_add, Nat.add_comm i p]
  · have h2 : 2 ^ i < 2 ^ (i + 1) := Nat.pow_lt_pow_right (by omega) (by omega)
    exact Nat.xor_lt_two_pow (by omega) h2
  · intro h
    have := eq_of_xor h
    omega

theorem flip_bits (l : List UInt8) (j m : Nat) (hj : j < l.length) (hm : m < 8) :
    bits .xor .u8 (((l[j]?.getD 0).toNat : Nat) : Int) ((2 : Int) ^ m % 256) = (((l[j]'hj).toNat ^^^ 2 ^ m : Nat) : Int) ∧ (l[j]'hj).toNat ^^^ 2 ^ m < 256 := by
  have hp : 2 ^ m < 2 ^ 8 := Nat.pow_lt_pow_right (by omega) hm
  have hb := (l[j]'hj).toNat_lt
  have e : ((2 : Int) ^ m % 256) = ((2 ^ m : Nat) : Int) := by
    have e2 : ((2 : Int) ^ m) = ((2 ^ m : Nat) : Int) := by simp
    have key : ∀ q : Nat, q < 256 → ((q : Int) % 256) = (q : Int) := by intro q hq; omega
    rw [e2]; exact key _ hp
  rw [e, List.getElem?_eq_getElem hj, Option.getD_some]
  exact ⟨u8_xor_nat _ _ hb hp, Nat.xor_lt_two_pow (n := 8) hb hp⟩

theorem burst_end (x y D : Nat) (h : x = y ↔ D = 0) : ((!decide (D = 0)) == (((x : Nat) : Int) != ((y : Nat) : Int))) = true := by
  by_cases e : D = 0
  · have hx : x = y := h.2 e
    simp [e, hx]
  · have hx : ¬ x = y := fun hh => e (h.1 hh)
    have hx2 : (((x : Nat) : Int) != ((y : Nat) : Int)) = true := by rw [bne_iff_ne]; omega
    simp [e, hx2]

set_option maxRecDepth 100000 in
set_option maxHeartbeats 4000000 in
theorem burst_walk (s : ByteArray) (a : Int) (b : Int) (w : World) (hT : Table w) (z1 : s.size ≤ 9223372036854775807) (a0 : -9223372036854775808 ≤ a) (a1 : a ≤ 9223372036854775807) (b0 : 0 ≤ b) (b1 : b ≤ 4294967295) :
    Calls Tryd.prog 8 #[.string s, .int .i64 a, .int .u32 b] w fun e w' => e = .returned (.bool true) ∧ Below w.heap.size w w' := by
  obtain ⟨B, rfl⟩ := Int.eq_ofNat_of_zero_le b0
  go_enter Tryd.func8, Tryd.ntmps8
  go_wp2_with fail
  refine (sane_calls _ hT).mono ?_
  rintro e w1 ⟨rfl, bA⟩
  obtain ⟨t, ht⟩ : ∃ t, s.extract 0 (min (s.size : Int) 300).toNat = t := ⟨_, rfl⟩
  have hts : t.size ≤ 300 := by rw [← ht]; exact Nat.le_trans (cut_size _ _) (by omega)
  have hts2 : t.size ≤ s.size := by
    have h1 := ext_list s (min (s.size : Int) 300).toNat
    rw [ht] at h1
    have h2 := congrArg List.length h1
    rw [List.length_take, ← Lib.size_eq, ← Lib.size_eq] at h2
    omega
  have HT : Hid (s.extract 0 t.size = t) := Lib.hid (by
    have e1 : t.size = (min (s.size : Int) 300).toNat := by
      have h1 := ext_list s (min (s.size : Int) 300).toNat
      rw [ht] at h1
      have h2 := congrArg List.length h1
      rw [List.length_take, ← Lib.size_eq, ← Lib.size_eq] at h2
      omega
    rw [e1, ht])
  have hbs := Lib.run_convert_string_bytes (P := Tryd.prog) w1 9 38 5 t Tryd.underlying9 Tryd.underlying38 Tryd.underlying5
  have b2 := bytesWorld_below w1 5 t
  have HB0 : Bytes (Lib.bytesWorld w1 5 t) w1.heap.size t.data.toList := fun i hi => ⟨Lib.bytesWorld_cell w1 _ t i (by simpa using hi), bytesWorld_free w1 _ t i (by simpa using hi)⟩
  generalize Lib.bytesWorld w1 5 t = w2 at hbs b2 HB0
  generalize grownCap w1 t.size 0 5 = cap at hbs
  have bB : Below w.heap.size w w2 := bA.trans (b2.mono bA.size)
  have hX : w.heap.size ≤ w1.heap.size := bA.size
  by_cases hz : t.size = 0 ∨ B = 0
  · have hzz : ((t.size : Int) == 0) = true ∨ ((t.size : Int) == 0) = false ∧ ((B : Int) == 0) = true := by
      by_cases h0 : t.size = 0
      · left; rw [h0]; rfl
      · right; exact ⟨by rw [beq_eq_false_iff_ne]; omega, by rw [show B = 0 by omega]; rfl⟩
    clear hz
    rcases hzz with hz | ⟨hz, hz2⟩
    all_goals
      go_wp2_with fail
      go_ret
      exact ⟨rfl, bB⟩
  · have hn1 : ((t.size : Int) == 0) = false := by rw [beq_eq_false_iff_ne]; omega
    have hn2 : ((B : Int) == 0) = false := by rw [beq_eq_false_iff_ne]; omega
    obtain ⟨p, hp, hpl⟩ := pick_nat a (8 * t.size) (by omega)
    have Hp := Lib.hid (show pickF a (8 * (t.size : Int)) = (p : Int) by rw [← hp]; rfl)
    clear hp hz
    go_wp2_with fail
    refine (pick_calls _ _ _ a0 a1 (by omega) (by omega)).mono ?_
    rw [Hp.out]
    rintro e w' ⟨rfl, rfl⟩
    have Hn := Lib.hid hts2
    have Hbe := Lib.hid ht
    clear hn1 hn2 hbs ht
    generalize w1.heap.size = X at HB0 hX ⊢
    go_wp2_with fail
    go_loopw [10, 11] (fun cv iv wr => ∃ (i D : Nat) (l : List UInt8), i ≤ 32 ∧ p + i ≤ 8 * t.size ∧ iv = .int .i64 i ∧ cv = .bool (decide (D ≠ 0)) ∧ Below w.heap.size w wr ∧ Hid (l.length = t.size) ∧ Hid (D < 2 ^ i) ∧ Hid (val l = val t.data.toList ^^^ D * 2 ^ p) ∧ Bytes wr X l) (fun _ iv _ => 32 - (intOf iv).toNat)
    case atStart => exact ⟨0, 0, t.data.toList, by omega, by omega, rfl, rfl, bB, Lib.hid (by simp), Lib.hid (by simp), Lib.hid (by simp), HB0⟩
    case round =>
      obtain ⟨i, D, l, hi, hpi, rfl, rfl, bR, Hl, HD, Hv, HB⟩ := hrel
      clear bB HB0 b2
      by_cases hlt : i < 32 ∧ p + i < 8 * t.size
      · obtain ⟨hl1, hl2⟩ := hlt
        have hj : (p + i) / 8 < l.length := by have := Hl.out; omega
        obtain ⟨c1, c2⟩ := HB ((p + i) / 8) hj
        have hj2 : ((p : Int) + (i : Int)) / 8 < (t.size : Int) := by omega
        have hj3 : (0 : Int) ≤ ((p : Int) + (i : Int)) / 8 := by omega
        have Hj := Lib.hid hj
        clear hj
        have Hb := Lib.hid (flip_bits l ((p + i) / 8) ((p + i) % 8) Hj.out (by omega))
        go_wp2_with fail
        · go_region
          all_goals go_wp2_with fail
          go_roundw
          case rel =>
            obtain ⟨g1, g2, g3⟩ := flip_step l t.data.toList p i D Hj.out HD.out Hv.out
            refine ⟨i + 1, D ^^^ 2 ^ i, l.set ((p + i) / 8) (UInt8.ofNat ((l[(p + i) / 8]'Hj.out).toNat ^^^ 2 ^ ((p + i) % 8))), by omega, by omega, by go_num, by rw [decide_eq_true g3], (bR.setCell (p := ⟨X, (p + i) / 8, none⟩) hX _).drew, Lib.hid (by rw [List.length_set]; exact Hl.out), Lib.hid g2, Lib.hid g1, ?_⟩
            rw [Hb.out.1]
            exact HB.step _ Hj.out _ Hb.out.2
          case measure => simp [intOf]; omega
        · go_roundw
          case rel =>
            have h2 : 2 ^ i < 2 ^ (i + 1) := Nat.pow_lt_pow_right (by omega) (by omega)
            exact ⟨i + 1, D, l, by omega, by omega, by go_num, by simp, bR, Hl, Lib.hid (Nat.lt_trans HD.out h2), Hv, HB⟩
          case measure => simp [intOf]; omega
      · have HD32 : Hid (D < 4294967296) := Lib.hid (by
          have h2 : 2 ^ i ≤ 2 ^ 32 := Nat.pow_le_pow_right (by omega) hi
          have := HD.out
          omega)
        have HE := Lib.hid (sumF_burst t.data.toList l p D (by rw [Hl.out]; simp) (by simp; omega) HD32.out Hv.out)
        have hcv : ∀ nq, (convert 38 9 (.slice (some ⟨X, 0, none⟩) t.size cap)).run Tryd.prog (wr.drewN nq) = .ok (.string ⟨l.toArray⟩) (wr.drewN nq) := fun nq => by
          have h := run_convert_bytes_arg (P := Tryd.prog) (wr.drewN nq) 38 5 Tryd.underlying38 Tryd.underlying5 X 0 t.size cap (l.map fun b => ((b.toNat : Nat) : Int)) (by simpa using Hl.out) (fun j hj => by
            have hjl : j < l.length := by rw [Hl.out]; exact hj
            rw [Nat.zero_add]
            refine (show (wr.drewN nq).cell? ⟨X, j, none⟩ = wr.cell? ⟨X, j, none⟩ from rfl).trans ((HB j hjl).1.trans ?_)
            simp [List.getElem?_map]
            rw [List.getElem?_eq_getElem hjl]; rfl) 9 Tryd.underlying9
          rw [str_bytes] at h
          exact h
        have hTr : Table wr := hT.below bR hT.lt
        have q0 : (⟨l.toArray⟩ : ByteArray).size ≤ 9223372036854775807 := by rw [mk_size, Hl.out]; omega
        have q1 : t.size ≤ 9223372036854775807 := by omega
        have j1 : (t.size : Int) ≤ (s.size : Int) := by omega
        have ht2 := HT.out
        by_cases h32 : i < 32
        · have k1 : (i : Int) < 32 := by omega
          have k2 : 8 * (t.size : Int) ≤ (p : Int) + (i : Int) := by omega
          clear hlt h32
          go_wp2_with fail
          go_quiet ((go_at_call 21; exact sum_quiet _ _ _ hTr (by first | exact q0 | exact q1)))
          go_wp2_with fail
          go_ret
          refine ⟨ret_bool ?_, below_drewN bR nq⟩
          exact burst_end _ _ _ HE.out
        · have k1 : (32 : Int) ≤ (i : Int) := by omega
          clear hlt h32
          go_wp2_with fail
          go_quiet ((go_at_call 21; exact sum_quiet _ _ _ hTr (by first | exact q0 | exact q1)))
          go_wp2_with fail
          go_ret
          refine ⟨ret_bool ?_, below_drewN bR nq⟩
          exact burst_end _ _ _ HE.out

end Go.Proofs.YthhjdcpodaledaaDoor
