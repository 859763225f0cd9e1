/- The contract of the reference implementation's block: it returns a row of its own with the eight words of the plain compression. -/
import Derived.Test.YtnbeebndcgoalaaDoorDExt
import Derived.StillTailTactics
import Derived.Deep.AppendLies
import Derived.Deep.RegionLaw
import Derived.Deep.Onto
namespace Go.Proofs.YtnbeebndcgoalaaDoor
open Go.RowKit
def WordsAt (w : World) (b o : Nat) (l : List Nat) : Prop := ∀ i : Nat, i < l.length → w.cell? ⟨b, o + i, none⟩ = some (.int .u32 ((l.getD i 0 : Nat) : Int))
def BytesAt (w : World) (b o : Nat) (l : List UInt8) : Prop := ∀ i : Nat, i < l.length → w.cell? ⟨b, o + i, none⟩ = some (.int .u8 (((l.getD i 0).toNat : Nat) : Int))
def listE (v : Eight) : List Nat := [v.a, v.b, v.c, v.d, v.e, v.f, v.g, v.h]
theorem lt_of_cell {w : World} {p : Addr} {v : Value} (h : w.cell? p = some v) : p.block < w.heap.size := World.block_lt_of_cell? w _ h

theorem word_bits (x0 x1 x2 x3 : Nat) (h0 : x0 < 256) (h1 : x1 < 256) (h2 : x2 < 256) (h3 : x3 < 256) :
    bits .or .u32 (bits .or .u32 (bits .or .u32 ((x0 : Int) % 4294967296 * 16777216 % 4294967296) ((x1 : Int) % 4294967296 * 65536 % 4294967296)) ((x2 : Int) % 4294967296 * 256 % 4294967296)) ((x3 : Int) % 4294967296) =
      ((x0 * 16777216 + x1 * 65536 + x2 * 256 + x3 : Nat) : Int) := by
  have a0 : ((x0 : Int) % 4294967296 * 16777216 % 4294967296) = ((2 ^ 24 * x0 : Nat) : Int) := by omega
  have a1 : ((x1 : Int) % 4294967296 * 65536 % 4294967296) = ((x1 * 65536 : Nat) : Int) := by omega
  have a2 : ((x2 : Int) % 4294967296 * 256 % 4294967296) = ((x2 * 256 : Nat) : Int) := by omega
  have a3 : ((x3 : Int) % 4294967296) = (x3 : Int) := by omega
  rw [a0, a1, a2, a3, u32_or _ _ (by omega) (by omega), ← Nat.two_pow_add_eq_or_of_lt (by omega) x0,
    show 2 ^ 24 * x0 + x1 * 65536 = 2 ^ 16 * (x0 * 256 + x1) by omega, u32_or _ _ (by omega) (by omega), ← Nat.two_pow_add_eq_or_of_lt (by omega),
    show 2 ^ 16 * (x0 * 256 + x1) + x2 * 256 = 2 ^ 8 * ((x0 * 256 + x1) * 256 + x2) by omega, u32_or _ _ (by omega) (by omega), ← Nat.two_pow_add_eq_or_of_lt (by omega)]
  omega
theorem words16_snoc (bl : List UInt8) (k : Nat) (h : k < 16) : (words16 bl).take (k + 1) = (words16 bl).take k ++ [wordN bl k] := by
  have hl : k < (words16 bl).length := by simp [words16]; omega
  rw [List.take_succ_eq_append_getElem hl]
  simp [words16]

theorem wordN_lt (b : List UInt8) (j : Nat) : wordN b j < 4294967296 := by
  unfold wordN
  have h0 := (b.getD (4 * j) 0).toNat_lt
  have h1 := (b.getD (4 * j + 1) 0).toNat_lt
  have h2 := (b.getD (4 * j + 2) 0).toNat_lt
  have h3 := (b.getD (4 * j + 3) 0).toNat_lt
  omega
theorem schedN_lt (w : List Nat) (j : Nat) (hw : ∀ x ∈ w, x < 4294967296) : ∀ x ∈ schedN w j, x < 4294967296 := by
  induction j with
  | zero => exact hw
  | succ j ih =>
    intro x hx
    unfold schedN at hx
    rcases List.mem_append.1 hx with h | h
    · exact ih x h
    · rw [List.mem_singleton] at h
      subst h
      unfold nextW
      omega
theorem words16_lt (b : List UInt8) : ∀ x ∈ words16 b, x < 4294967296 := by
  intro x hx
  unfold words16 at hx
  obtain ⟨j, _, rfl⟩ := List.mem_map.1 hx
  exact wordN_lt b j
theorem getD_lt (l : List Nat) (h : ∀ x ∈ l, x < 4294967296) (j : Nat) : l.getD j 0 < 4294967296 := by
  rw [List.getD_eq_getElem?_getD]
  by_cases hj : j < l.length
  · rw [List.getElem?_eq_getElem hj]; exact h _ (List.getElem_mem _)
  · rw [List.getElem?_eq_none (by omega)]; decide
theorem row32_cell {w : World} {base g n c : Nat} {l : List Nat} (h : w.ownsRow base 75 1 (.slice (some ⟨g, 0, none⟩) n c) n (cells32 l)) (j : Nat) (hj : j < l.length) :
    w.cell? ⟨g, j, none⟩ = some (.int .u32 ((l.getD j 0 : Nat) : Int)) := by
  have h1 : (cells32 l)[j]? = some (.int .u32 ((l.getD j 0 : Nat) : Int)) := by
    unfold cells32
    rw [List.getElem?_map, List.getElem?_eq_getElem hj, List.getD_eq_getElem?_getD, List.getElem?_eq_getElem hj]
    rfl
  have h2 := World.ownsRow.cells h rfl _ _ h1
  have e : Addr.add ⟨g, 0, none⟩ j = ⟨g, j, none⟩ := by unfold Addr.add; split <;> simp_all
  rw [e] at h2
  exact h2
theorem rotated_quiet (x : Nat) (z : Int) (w : World) (N : Nat) (hx : x < 4294967296) (h1 : 1 ≤ z) (hn : z ≤ 31) :
    Calls Tryd.prog 73 #[.int .u32 (x : Int), .int .i64 z] (w.drewN N) fun e w' => e = .returned (.int .u32 ((rotN x z.toNat : Nat) : Int)) ∧ ∃ m, w' = w.drewN m := by
  obtain ⟨n, rfl⟩ := Int.eq_ofNat_of_zero_le (show 0 ≤ z by omega)
  exact Calls.quiet_of ((rotated_calls x n _ hx (by omega) (by omega)).mono fun _ _ ⟨he, hw⟩ => ⟨he, 1, hw⟩)
theorem xor3 (a b c : Nat) (ha : a < 4294967296) (hb : b < 4294967296) (hc : c < 4294967296) : bits .xor .u32 (bits .xor .u32 (a : Int) (b : Int)) (c : Int) = (((a ^^^ b) ^^^ c : Nat) : Int) := by
  have h : a ^^^ b < 2 ^ 32 := Nat.xor_lt_two_pow (by omega) (by omega)
  rw [u32_xor a b ha hb, u32_xor _ _ (by omega) hc]
theorem sum4_walk (a b c d : Nat) : IntKind.u32.wrap (IntKind.u32.wrap (IntKind.u32.wrap ((a : Int) + (b : Int)) + (c : Int)) + (d : Int)) = (((((a + b) % 4294967296 + c) % 4294967296 + d) % 4294967296 : Nat) : Int) := by
  show ((((a : Int) + (b : Int)) % 4294967296 + (c : Int)) % 4294967296 + (d : Int)) % 4294967296 = _
  omega
theorem sig0_walk (x : Nat) (h : x < 4294967296) : bits .xor .u32 (bits .xor .u32 ((rotN x 7 : Nat) : Int) ((rotN x 18 : Nat) : Int)) ((x : Int) / 8) = ((sig0 x : Nat) : Int) := by
  have e : (x : Int) / (8 : Int) = ((x >>> 3 : Nat) : Int) := by rw [Nat.shiftRight_eq_div_pow]; simp
  rw [e, xor3 _ _ _ (rotN_lt _ _ h) (rotN_lt _ _ h) (by rw [Nat.shiftRight_eq_div_pow]; omega)]
  rfl
theorem sig1_walk (x : Nat) (h : x < 4294967296) : bits .xor .u32 (bits .xor .u32 ((rotN x 17 : Nat) : Int) ((rotN x 19 : Nat) : Int)) ((x : Int) / 1024) = ((sig1 x : Nat) : Int) := by
  have e : (x : Int) / (1024 : Int) = ((x >>> 10 : Nat) : Int) := by rw [Nat.shiftRight_eq_div_pow]; simp
  rw [e, xor3 _ _ _ (rotN_lt _ _ h) (rotN_lt _ _ h) (by rw [Nat.shiftRight_eq_div_pow]; omega)]
  rfl

def okE (v : Eight) : Prop := v.a < 4294967296 ∧ v.b < 4294967296 ∧ v.c < 4294967296 ∧ v.d < 4294967296 ∧ v.e < 4294967296 ∧ v.f < 4294967296 ∧ v.g < 4294967296 ∧ v.h < 4294967296
theorem stepE_ok (v : Eight) (k w : Nat) (h : okE v) : okE (stepE v k w) := by
  obtain ⟨h1, h2, h3, h4, h5, h6, h7, h8⟩ := h
  exact ⟨Nat.mod_lt _ (by omega), h1, h2, h3, Nat.mod_lt _ (by omega), h5, h6, h7⟩
theorem roundsN_ok (w : List Nat) (v : Eight) (i : Nat) (h : okE v) : okE (roundsN w v i) := by
  induction i with
  | zero => exact h
  | succ i ih => exact stepE_ok _ _ _ ih
theorem addE_ok (v x : Eight) : okE (addE v x) := ⟨Nat.mod_lt _ (by omega), Nat.mod_lt _ (by omega), Nat.mod_lt _ (by omega), Nat.mod_lt _ (by omega), Nat.mod_lt _ (by omega), Nat.mod_lt _ (by omega), Nat.mod_lt _ (by omega), Nat.mod_lt _ (by omega)⟩
theorem not32 (x : Nat) (h : x < 4294967296) : bits .xor .u32 IntKind.u32.max (x : Int) = ((4294967295 - x : Nat) : Int) := by
  have h1 := u32_xor 4294967295 x (by omega) h
  have h2 : 4294967295 ^^^ x = 4294967295 - x := by
    have e := congrArg BitVec.toNat (BitVec.xor_allOnes (x := BitVec.ofNat 32 x))
    rw [BitVec.toNat_xor, BitVec.toNat_not, BitVec.toNat_ofNat, BitVec.toNat_allOnes, Nat.mod_eq_of_lt (by omega)] at e
    rw [Nat.xor_comm]
    exact e
  rw [← h2, ← h1]
  rfl
theorem and_lt32 (x y : Nat) (h : y < 4294967296) : x &&& y < 4294967296 := by
  have : x &&& y < 2 ^ 32 := Nat.and_lt_two_pow _ (by omega)
  omega
theorem t_walk (xa xb xc xd xe xf xg xh K X : Nat) (h5 : xe < 4294967296) (h6 : xf < 4294967296) (h7 : xg < 4294967296) :
    (((xh : Int) + bits BinOp.xor IntKind.u32 (bits BinOp.xor IntKind.u32 ((rotN xe 6 : Nat) : Int) ((rotN xe 11 : Nat) : Int)) ((rotN xe 25 : Nat) : Int) +
      bits BinOp.xor IntKind.u32 (bits BinOp.and IntKind.u32 (xe : Int) (xf : Int)) (bits BinOp.and IntKind.u32 (bits BinOp.xor IntKind.u32 IntKind.u32.max (xe : Int)) (xg : Int)) + (K : Int) + (X : Int)) % 4294967296) =
    ((tN ⟨xa, xb, xc, xd, xe, xf, xg, xh⟩ K X : Nat) : Int) := by
  rw [xor3 _ _ _ (rotN_lt _ _ h5) (rotN_lt _ _ h5) (rotN_lt _ _ h5), not32 _ h5, u32_and _ _ h5 h6, u32_and _ _ (by omega) h7, u32_xor _ _ (and_lt32 _ _ h6) (and_lt32 _ _ h7)]
  unfold tN eps1 chN
  dsimp only
  omega
theorem u_walk (xa xb xc xd xe xf xg xh : Nat) (h1 : xa < 4294967296) (h2 : xb < 4294967296) (h3 : xc < 4294967296) :
    ((bits BinOp.xor IntKind.u32 (bits BinOp.xor IntKind.u32 ((rotN xa 2 : Nat) : Int) ((rotN xa 13 : Nat) : Int)) ((rotN xa 22 : Nat) : Int) +
      bits BinOp.xor IntKind.u32 (bits BinOp.xor IntKind.u32 (bits BinOp.and IntKind.u32 (xa : Int) (xb : Int)) (bits BinOp.and IntKind.u32 (xa : Int) (xc : Int))) (bits BinOp.and IntKind.u32 (xb : Int) (xc : Int))) % 4294967296) =
    ((uN ⟨xa, xb, xc, xd, xe, xf, xg, xh⟩ : Nat) : Int) := by
  rw [xor3 _ _ _ (rotN_lt _ _ h1) (rotN_lt _ _ h1) (rotN_lt _ _ h1), u32_and _ _ h1 h2, u32_and _ _ h1 h3, u32_and _ _ h2 h3, xor3 _ _ _ (and_lt32 _ _ h2) (and_lt32 _ _ h3) (and_lt32 _ _ h3)]
  unfold uN eps0 majN
  dsimp only
  omega
theorem addE_at (v x : Eight) (k : Nat) (h : k < 8) : (listE (addE v x)).take (k + 1) = (listE (addE v x)).take k ++ [((listE v).getD k 0 + (listE x).getD k 0) % 4294967296] := by
  match k, h with
  | 0, _ => rfl
  | 1, _ => rfl
  | 2, _ => rfl
  | 3, _ => rfl
  | 4, _ => rfl
  | 5, _ => rfl
  | 6, _ => rfl
  | 7, _ => rfl
theorem sum2_walk (a b : Nat) : IntKind.u32.wrap ((a : Int) + (b : Int)) = (((a + b) % 4294967296 : Nat) : Int) := by
  show ((a : Int) + (b : Int)) % 4294967296 = _
  omega
theorem WordsAt.keep {w w' : World} {b o : Nat} {l : List Nat} (h : WordsAt w b o l) (hb : Below w.heap.size w w') : WordsAt w' b o l := fun i hi =>
  (hb.cell (p := ⟨b, o + i, none⟩) (lt_of_cell (h i hi))).trans (h i hi)
theorem words_row {w : World} {base g n c : Nat} {l : List Nat} (h : w.ownsRow base 75 1 (.slice (some ⟨g, 0, none⟩) n c) n (cells32 l)) : WordsAt w g 0 l := fun i hi => by
  rw [Nat.zero_add]; exact row32_cell h i hi
theorem words_new (w : World) (l : List Nat) (t : TypeId) : WordsAt (w.alloc (.cells (cells32 l).toArray t)) w.heap.size 0 l := fun i hi => by
  rw [cell_of_row _ _ _ _ _ _ (heap_alloc_new w (.cells (cells32 l).toArray t))]
  unfold cells32
  simp only [Nat.zero_add, List.getElem?_toArray, List.getElem?_map, List.getD_eq_getElem?_getD, List.getElem?_eq_getElem hi]
  rfl
theorem constants_calls (w : World) :
    Calls Tryd.prog 74 #[] w fun e W' => (∃ g, e = .returned (.slice (some ⟨g, 0, none⟩) 64 64) ∧ WordsAt W' g 0 shaK) ∧ Below w.heap.size w W' := by
  go_enter Tryd.func74, Tryd.ntmps74
  go_wp2_with fail
  go_ret
  exact ⟨⟨_, rfl, words_new w shaK _⟩, (Below.refl _ _).alloc (Nat.le_refl _) _⟩

set_option maxRecDepth 100000 in
set_option maxHeartbeats 8000000 in
theorem block_calls (v : Eight) (bl : List UInt8) (bh bb ob ch cb : Nat) (w : World) (hl : bl.length = 64) (hok : okE v) (hv : WordsAt w bh 0 (listE v)) (hb : BytesAt w bb ob bl) :
    Calls Tryd.prog 62 #[.slice (some ⟨bh, 0, none⟩) 8 ch, .slice (some ⟨bb, ob, none⟩) 64 cb] w fun e W' => ∃ r, e = .returned r ∧ W'.ownsRow w.heap.size 75 1 r 8 (cells32 (listE (blockE v bl))) ∧ Below w.heap.size w W' := by
  obtain ⟨i0, hi, hz0, hz1, hz2⟩ := info_parts (show (Tryd.prog.info? 75).map (fun i => (i.zero, i.size, i.bytes)) = some (some (.int .u32 0), 1, 4) from by kernel_rfl)
  have HV := Lib.hid hv
  have HB := Lib.hid hb
  have Hl := Lib.hid hl
  have Hok := Lib.hid hok
  have Hbb := Lib.hid (show bb < w.heap.size from lt_of_cell (hb 0 (by omega)))
  clear hv hb hl hok
  go_enter Tryd.func62, Tryd.ntmps62
  go_wp2_with fail
  go_loopw [5, 6] (fun bv iv wr => ∃ k : Nat, k ≤ 16 ∧ iv = .int .i64 k ∧ Hid (wr.ownsRow w.heap.size 75 1 bv k (cells32 ((words16 bl).take k))) ∧ Below w.heap.size w wr)
    (fun _ iv _ => 16 - (intOf iv).toNat)
  case atStart => exact ⟨0, by omega, rfl, Lib.hid (World.ownsRow_nil _ _ _ _), Below.refl _ _⟩
  case round =>
    obtain ⟨k, hk, rfl, Ho, bR⟩ := hrel
    by_cases hlt : k < 16
    · have c0 := HB.out (4 * k) (by have := Hl.out; omega)
      have c1 := HB.out (4 * k + 1) (by have := Hl.out; omega)
      have c2 := HB.out (4 * k + 2) (by have := Hl.out; omega)
      have c3 := HB.out (4 * k + 3) (by have := Hl.out; omega)
      have d0 : wr.cell? ⟨bb, ob + 4 * k, none⟩ = _ := (bR.cell (p := ⟨bb, ob + 4 * k, none⟩) (lt_of_cell c0)).trans c0
      have d1 : wr.cell? ⟨bb, ob + (4 * k + 1), none⟩ = _ := (bR.cell (p := ⟨bb, ob + (4 * k + 1), none⟩) (lt_of_cell c1)).trans c1
      have d2 : wr.cell? ⟨bb, ob + (4 * k + 2), none⟩ = _ := (bR.cell (p := ⟨bb, ob + (4 * k + 2), none⟩) (lt_of_cell c2)).trans c2
      have d3 : wr.cell? ⟨bb, ob + (4 * k + 3), none⟩ = _ := (bR.cell (p := ⟨bb, ob + (4 * k + 3), none⟩) (lt_of_cell c3)).trans c3
      clear c0 c1 c2 c3
      have Hc := Lib.hid (words16_snoc bl k hlt)
      unfold wordN at Hc
      have Hx := Lib.hid (word_bits _ _ _ _ (bl.getD (4 * k) 0).toNat_lt (bl.getD (4 * k + 1) 0).toNat_lt (bl.getD (4 * k + 2) 0).toNat_lt (bl.getD (4 * k + 3) 0).toNat_lt)
      generalize (bl.getD (4 * k) 0).toNat = x0 at d0 Hx Hc
      generalize (bl.getD (4 * k + 1) 0).toNat = x1 at d1 Hx Hc
      generalize (bl.getD (4 * k + 2) 0).toNat = x2 at d2 Hx Hc
      generalize (bl.getD (4 * k + 3) 0).toNat = x3 at d3 Hx Hc
      have k0 : 4 * (k : Int) < 64 := by omega
      have k1 : 4 * (k : Int) + 1 < 64 := by omega
      have k2 : 4 * (k : Int) + 2 < 64 := by omega
      have k3 : 4 * (k : Int) + 3 < 64 := by omega
      have kk : 0 ≤ 4 * (k : Int) := by omega
      have q1 : 0 ≤ 4 * (k : Int) + 1 := by omega
      have q2 : 0 ≤ 4 * (k : Int) + 2 := by omega
      have q3 : 0 ≤ 4 * (k : Int) + 3 := by omega
      have t0 : (4 * (k : Int)).toNat = 4 * k := by omega
      have t1 : (4 * (k : Int) + 1).toNat = 4 * k + 1 := by omega
      have t2 : (4 * (k : Int) + 2).toNat = 4 * k + 2 := by omega
      have t3 : (4 * (k : Int) + 3).toNat = 4 * k + 3 := by omega
      have e0 : IntKind.i64.wrap (4 * (k : Int)) = 4 * (k : Int) := IntWalk.i64_in _ (by omega)
      have e1 : IntKind.i64.wrap (4 * (k : Int) + 1) = 4 * (k : Int) + 1 := IntWalk.i64_in _ (by omega)
      have e2 : IntKind.i64.wrap (4 * (k : Int) + 2) = 4 * (k : Int) + 2 := IntWalk.i64_in _ (by omega)
      have e3 : IntKind.i64.wrap (4 * (k : Int) + 3) = 4 * (k : Int) + 3 := IntWalk.i64_in _ (by omega)
      go_wp2_with fail
      have h63 : k + 1 ≤ maxLen := by unfold maxLen; omega
      have hby : (k + 1) * 4 ≤ 140737488355328 := by omega
      have hne : u5.ownBlock ≠ some bb := fun e => by
        have h1 := (Ho.out.lt bb e).1
        have h2 := Hbb.out
        omega
      have hsz := Lib.hid bR.size
      have Hlt := Lib.hid (lt_of_cell d0)
      go_region_held3 (fun w' => w'.cell? ⟨bb, ob + 4 * k, none⟩ = some (.int .u8 (x0 : Int)) ∧ w'.cell? ⟨bb, ob + (4 * k + 1), none⟩ = some (.int .u8 (x1 : Int)) ∧ w'.cell? ⟨bb, ob + (4 * k + 2), none⟩ = some (.int .u8 (x2 : Int)) ∧ w'.cell? ⟨bb, ob + (4 * k + 3), none⟩ = some (.int .u8 (x3 : Int)))
        (first
          | go_keep
          | (go_split_ands
             refine ⟨?_, ?_, ?_, ?_⟩ <;> (rw [hgrow.cell_far _ (by simp; have := Hlt.out; simp at this; omega) (Ne.symm hne)]; assumption)))
        ((refine step_append_lies _ (by rfl) _ _ _ (by rfl) w.heap.size 75 i0 _ 1 4 Tryd.underlying76 hi hz0 hz1 hz2 rfl (by omega) u5 k _ (by rfl) ((Ho.out.alloc _).drew)
              ⟨wr.heap.size, 0, none⟩ 1 1 [.int .u32 (bits .or .u32 (bits .or .u32 (bits .or .u32 (IntKind.u32.wrap (IntKind.u32.wrap (x0 : Int) * 16777216)) (IntKind.u32.wrap (IntKind.u32.wrap (x1 : Int) * 65536))) (IntKind.u32.wrap (IntKind.u32.wrap (x2 : Int) * 256))) (IntKind.u32.wrap (x3 : Int)))] (by rfl) (by rfl)
              (World.news_of_block (cs := #[.int .u32 (bits .or .u32 (bits .or .u32 (bits .or .u32 (IntKind.u32.wrap (IntKind.u32.wrap (x0 : Int) * 16777216)) (IntKind.u32.wrap (IntKind.u32.wrap (x1 : Int) * 65536))) (IntKind.u32.wrap (IntKind.u32.wrap (x2 : Int) * 256))) (IntKind.u32.wrap (x3 : Int)))]) (t := 75) (fr := (0, 0)) (heap_alloc_new wr _)) (by simp [Value.oneCell'])
              (by omega) h63 hby (by simp; have := hsz.out; omega) (wr.heap.size + 1) (by simp) ?_; intro gg cap w1 hown1 hgrow hat hlt))
      have bS : Below w.heap.size w w1 := ((bR.alloc bR.size _).drew).grown hgrow (by have := hsz.out; simp; omega) (fun q e => (Ho.out.lt q e).1)
      have hx2 : bits .or .u32 (bits .or .u32 (bits .or .u32 (IntKind.u32.wrap (IntKind.u32.wrap (x0 : Int) * 16777216)) (IntKind.u32.wrap (IntKind.u32.wrap (x1 : Int) * 65536))) (IntKind.u32.wrap (IntKind.u32.wrap (x2 : Int) * 256))) (IntKind.u32.wrap (x3 : Int)) = ((x0 * 16777216 + x1 * 65536 + x2 * 256 + x3 : Nat) : Int) := Hx.out
      rw [hx2, ← cells32_snoc, ← Hc.out] at hown1
      have Hown := Lib.hid hown1
      clear hown1 hgrow hat hlt hx2 t0 t1 t2 t3 e0 e1 e2 e3 q1 q2 q3 kk k0 k1 k2 k3 d0 d1 d2 d3 hne
      go_wp2_with fail
      go_roundw
      case rel => exact ⟨k + 1, by omega, by go_num, Hown, bS⟩
      case measure => simp [intOf]; omega
    · obtain rfl : k = 16 := by omega
      obtain ⟨g0, c0, rfl⟩ := ownsRow_succ Ho.out
      have Hs : Hid (wr.ownsRow w.heap.size 75 1 (.slice (some ⟨g0, 0, none⟩) 16 c0) 16 (cells32 (schedN (words16 bl) (16 - 16)))) := Lib.hid (by
        have h := Ho.out
        rw [List.take_of_length_le (by simp [words16])] at h
        exact h)
      clear hlt hk Ho
      rw [show ((16 : Nat) : Int) = 16 from rfl]
      go_wp2_with fail
      go_loopw [5, 7] (fun bv iv wr => ∃ i : Nat, 16 ≤ i ∧ i ≤ 64 ∧ iv = .int .i64 i ∧ (∃ g c, bv = .slice (some ⟨g, 0, none⟩) i c) ∧ Hid (wr.ownsRow w.heap.size 75 1 bv i (cells32 (schedN (words16 bl) (i - 16)))) ∧ Below w.heap.size w wr)
        (fun _ iv _ => 64 - (intOf iv).toNat)
      case atStart => exact ⟨16, by omega, by omega, rfl, ⟨g0, c0, rfl⟩, Hs, bR⟩
      case round =>
        obtain ⟨i, hi1, hi2, rfl, ⟨g, c, rfl⟩, Ho, bR⟩ := hrel
        clear Hs
        by_cases hlt : i < 64
        · have hLl : (schedN (words16 bl) (i - 16)).length = i := by rw [schedN_length]; simp [words16]; omega
          have hLb := schedN_lt (words16 bl) (i - 16) (words16_lt bl)
          have Hnext : Hid (schedN (words16 bl) (i + 1 - 16) = schedN (words16 bl) (i - 16) ++ [nextW (schedN (words16 bl) (i - 16))]) := Lib.hid (by
            rw [show i + 1 - 16 = (i - 16) + 1 by omega]; rfl)
          have HN : Hid (nextW (schedN (words16 bl) (i - 16)) = ((((schedN (words16 bl) (i - 16)).getD (i - 16) 0 + sig0 ((schedN (words16 bl) (i - 16)).getD (i - 15) 0)) % 4294967296 + (schedN (words16 bl) (i - 16)).getD (i - 7) 0) % 4294967296 + sig1 ((schedN (words16 bl) (i - 16)).getD (i - 2) 0)) % 4294967296) := Lib.hid (by
            unfold nextW; rw [hLl])
          have c16 := row32_cell Ho.out (i - 16) (by omega)
          have c15 := row32_cell Ho.out (i - 15) (by omega)
          have c7 := row32_cell Ho.out (i - 7) (by omega)
          have c2 := row32_cell Ho.out (i - 2) (by omega)
          have b16 := getD_lt _ hLb (i - 16)
          have b15 := getD_lt _ hLb (i - 15)
          have b7 := getD_lt _ hLb (i - 7)
          have b2 := getD_lt _ hLb (i - 2)
          clear hLb hLl
          generalize hL : schedN (words16 bl) (i - 16) = L at *
          have HL := Lib.hid hL
          clear hL
          generalize L.getD (i - 16) 0 = x16 at *
          generalize L.getD (i - 15) 0 = x15 at *
          generalize L.getD (i - 7) 0 = x7 at *
          generalize L.getD (i - 2) 0 = x2 at *
          have S0 := Lib.hid (sig0_walk x15 b15)
          have S1 := Lib.hid (sig1_walk x2 b2)
          have l15 : (i : Int) - 15 < (i : Int) := by omega
          have l2 : (i : Int) - 2 < (i : Int) := by omega
          have l16 : (i : Int) - 16 < (i : Int) := by omega
          have l7 : (i : Int) - 7 < (i : Int) := by omega
          have p15 : 0 ≤ (i : Int) - 15 := by omega
          have p2 : 0 ≤ (i : Int) - 2 := by omega
          have p16 : 0 ≤ (i : Int) - 16 := by omega
          have p7 : 0 ≤ (i : Int) - 7 := by omega
          have t15 : ((i : Int) - 15).toNat = i - 15 := by omega
          have t2 : ((i : Int) - 2).toNat = i - 2 := by omega
          have t16 : ((i : Int) - 16).toNat = i - 16 := by omega
          have t7 : ((i : Int) - 7).toNat = i - 7 := by omega
          have e15 : IntKind.i64.wrap ((i : Int) - 15) = (i : Int) - 15 := IntWalk.i64_in _ (by omega)
          have e2 : IntKind.i64.wrap ((i : Int) - 2) = (i : Int) - 2 := IntWalk.i64_in _ (by omega)
          have e16 : IntKind.i64.wrap ((i : Int) - 16) = (i : Int) - 16 := IntWalk.i64_in _ (by omega)
          have e7 : IntKind.i64.wrap ((i : Int) - 7) = (i : Int) - 7 := IntWalk.i64_in _ (by omega)
          go_wp2_with fail
          go_quiet ((go_at_call 73; exact rotated_quiet _ _ _ _ b15 (by omega) (by omega)))
          go_wp2_with fail
          rw [S0.out]
          obtain ⟨w2, hw2, f16, f7, f2, Ho2, bR2⟩ : ∃ w2, wr.drewN nq = w2 ∧ w2.cell? ⟨g, i - 16, none⟩ = some (.int .u32 (x16 : Int)) ∧ w2.cell? ⟨g, i - 7, none⟩ = some (.int .u32 (x7 : Int)) ∧ w2.cell? ⟨g, i - 2, none⟩ = some (.int .u32 (x2 : Int)) ∧ Hid (w2.ownsRow w.heap.size 75 1 (.slice (some ⟨g, 0, none⟩) i c) i (cells32 L)) ∧ Below w.heap.size w w2 :=
            ⟨_, rfl, c16, c7, c2, Lib.hid Ho.out, below_drewN bR nq⟩
          rw [hw2]
          clear hw2 c16 c15 c7 c2 Ho bR
          go_quiet ((go_at_call 73; exact rotated_quiet _ _ _ _ b2 (by omega) (by omega)))
          go_wp2_with fail
          rw [S1.out]
          obtain ⟨w3, hw3, g16, g7, Ho3, bR3⟩ : ∃ w3, w2.drewN nq = w3 ∧ w3.cell? ⟨g, i - 16, none⟩ = some (.int .u32 (x16 : Int)) ∧ w3.cell? ⟨g, i - 7, none⟩ = some (.int .u32 (x7 : Int)) ∧ Hid (w3.ownsRow w.heap.size 75 1 (.slice (some ⟨g, 0, none⟩) i c) i (cells32 L)) ∧ Below w.heap.size w w3 :=
            ⟨_, rfl, f16, f7, Lib.hid Ho2.out, below_drewN bR2 nq⟩
          rw [hw3]
          clear hw3 f16 f7 f2 Ho2 bR2 nq
          have h63 : i + 1 ≤ maxLen := by unfold maxLen; omega
          have r16 : (16 : Int) ≤ (i : Int) := by omega
          have r7 : (7 : Int) ≤ (i : Int) := by omega
          have hby : (i + 1) * 4 ≤ 140737488355328 := by omega
          have hsz := Lib.hid bR3.size
          go_region_law
            ((refine step_append_lies _ (by rfl) _ _ _ (by rfl) w.heap.size 75 i0 _ 1 4 Tryd.underlying76 hi hz0 hz1 hz2 rfl (by omega) (.slice (some ⟨g, 0, none⟩) i c) i _ (by rfl) ((Ho3.out.alloc _).drew)
                  ⟨w3.heap.size, 0, none⟩ 1 1 [.int .u32 (IntKind.u32.wrap (IntKind.u32.wrap (IntKind.u32.wrap ((x16 : Int) + ((sig0 x15 : Nat) : Int)) + (x7 : Int)) + ((sig1 x2 : Nat) : Int)))] (by rfl) (by rfl)
                  (World.news_of_block (cs := #[.int .u32 (IntKind.u32.wrap (IntKind.u32.wrap (IntKind.u32.wrap ((x16 : Int) + ((sig0 x15 : Nat) : Int)) + (x7 : Int)) + ((sig1 x2 : Nat) : Int)))]) (t := 75) (fr := (0, 0)) (heap_alloc_new w3 _)) (by simp [Value.oneCell'])
                  (by omega) h63 hby (by simp; have := hsz.out; omega) (w3.heap.size + 1) (by simp) ?_; intro gg cap w1 hown1 hgrow hat hlt))
          all_goals
            have bS : Below w.heap.size w w1 := ((bR3.alloc bR3.size _).drew).grown hgrow (by have := hsz.out; simp; omega) (fun q e => (Ho3.out.lt q e).1)
            rw [sum4_walk, ← HN.out, ← cells32_snoc, ← Hnext.out] at hown1
            have Hown := Lib.hid hown1
            clear hown1 hgrow hat hlt t15 t2 t16 t7 e15 e2 e16 e7 g16 g7 HN Hnext HL S0 S1
            go_wp2_with fail
            go_roundw
            case rel => exact ⟨i + 1, by omega, by omega, by go_num, ⟨gg, cap, rfl⟩, Hown, bS⟩
            case measure => simp [intOf]; omega
        · obtain rfl : i = 64 := by omega
          have HW := Lib.hid (show (schedN (words16 bl) 48).length = 64 from by rw [schedN_length]; rfl)
          clear hlt hi1 hi2
          go_wp2_with fail
          refine (constants_calls _).mono ?_
          rintro e wk ⟨⟨gk, rfl, hK⟩, bK⟩
          have HK := Lib.hid hK
          have HWd := Lib.hid ((words_row Ho.out).keep bK)
          have bR4 := bR.trans (bK.mono bR.size)
          have HVd := Lib.hid (HV.out.keep (bR4.mono (Nat.le_refl _)))
          clear hK bK Ho bR
          rw [show ((64 : Nat) : Int) = 64 from rfl]
          go_wp2_with (at_builtin; refine wpList_append_own _ rfl _ _ 76 rfl w.heap.size 75 i0 (.int .u32 0) 1 4 Tryd.underlying76 hi hz0 hz1 hz2 rfl (by decide) _ 0 [] rfl (World.ownsRow_nil _ _ _ _) ⟨bh, 0, none⟩ 8 ch (cells32 (listE v)) rfl rfl ?b1 ?b2 ?b3 ?b4 ?b5 ?_)
          case b1 =>
            intro j u hu
            have e : Addr.add ⟨bh, 0, none⟩ j = ⟨bh, 0 + j, none⟩ := by unfold Addr.add; split <;> simp_all
            have hj : j < (listE v).length := by
              have h := (List.getElem?_eq_some_iff.1 hu).1
              rw [cells32_length] at h; exact h
            rw [e, HVd.out j hj, ← hu]
            unfold cells32
            rw [List.getElem?_map, List.getElem?_eq_getElem hj, List.getD_eq_getElem?_getD, List.getElem?_eq_getElem hj]
            rfl
          case b2 => intro u hu; obtain ⟨x, _, rfl⟩ := List.mem_map.1 hu; rfl
          case b3 => unfold maxLen; omega
          case b4 => omega
          case b5 => exact bR4.size
          intro v' w1 hown' hgrow _
          have bS : Below w.heap.size w w1 := bR4.grown hgrow bR4.size (fun q e => by simp [Value.ownBlock] at e)
          have bG : Below wk.heap.size wk w1 := (Below.refl _ _).grown hgrow (Nat.le_refl _) (fun q e => by simp [Value.ownBlock] at e)
          have hown2 : w1.ownsRow w.heap.size 75 1 v' 8 (cells32 (listE v)) := hown'
          obtain ⟨gv, cv, rfl, _⟩ := hown2.form (by omega)
          have HX := Lib.hid (words_row hown2)
          clear hown2
          have HK1 := Lib.hid (HK.out.keep bG)
          have HW1 := Lib.hid (HWd.out.keep bG)
          clear hown' hgrow bG HK HWd HVd bR4
          go_wp2_with fail
          obtain ⟨W, hW⟩ : ∃ W, schedN (words16 bl) 48 = W := ⟨_, rfl⟩
          have hWl : W.length = 64 := by rw [← hW, schedN_length]; rfl
          have hWb : ∀ j, W.getD j 0 < 4294967296 := fun j => by rw [← hW]; exact getD_lt _ (schedN_lt _ _ (words16_lt bl)) j
          have hKb : ∀ j, shaK.getD j 0 < 4294967296 := getD_lt _ (by decide)
          have HW2 : Hid (WordsAt w1 g 0 W) := Lib.hid (by rw [← hW]; exact HW1.out)
          have Hbl : Hid (blockE v bl = addE v (roundsN W v 64)) := Lib.hid (by rw [← hW]; rfl)
          have HWL := Lib.hid hWl
          have HWB := Lib.hid hWb
          have HKB := Lib.hid hKb
          clear hW hWl hWb hKb HW1 HW
          go_loopw [11, 12] (fun vv iv wr => ∃ i gv cv : Nat, i ≤ 64 ∧ iv = .int .i64 i ∧ vv = .slice (some ⟨gv, 0, none⟩) 8 cv ∧ Hid (WordsAt wr gv 0 (listE (roundsN W v i))) ∧ Hid (WordsAt wr gk 0 shaK) ∧ Hid (WordsAt wr g 0 W) ∧ Below w.heap.size w wr)
            (fun _ iv _ => 64 - (intOf iv).toNat)
          case atStart => exact ⟨0, gv, cv, by omega, rfl, rfl, HX, HK1, HW2, bS⟩
          case round =>
            obtain ⟨i, gv, cv, hi1, rfl, rfl, HX, HK, HW, bR⟩ := hrel
            clear HK1 HW2 bS
            by_cases hlt : i < 64
            · obtain ⟨x, hx⟩ : ∃ x, roundsN W v i = x := ⟨_, rfl⟩
              have Hnext : Hid (roundsN W v (i + 1) = stepE x (shaK.getD i 0) (W.getD i 0)) := Lib.hid (by rw [← hx]; rfl)
              have hxo : okE x := by rw [← hx]; exact roundsN_ok _ _ _ Hok.out
              have HX2 := HX.out
              rw [hx] at HX2
              clear hx HX
              obtain ⟨xa, xb, xc, xd, xe, xf, xg, xh⟩ := x
              obtain ⟨o1, o2, o3, o4, o5, o6, o7, o8⟩ := hxo
              dsimp only at o1 o2 o3 o4 o5 o6 o7 o8
              have va : wr.cell? ⟨gv, 0, none⟩ = some (.int .u32 (xa : Int)) := HX2 0 (show 0 < 8 by decide)
              have vb : wr.cell? ⟨gv, 1, none⟩ = some (.int .u32 (xb : Int)) := HX2 1 (show 1 < 8 by decide)
              have vc : wr.cell? ⟨gv, 2, none⟩ = some (.int .u32 (xc : Int)) := HX2 2 (show 2 < 8 by decide)
              have vd : wr.cell? ⟨gv, 3, none⟩ = some (.int .u32 (xd : Int)) := HX2 3 (show 3 < 8 by decide)
              have ve : wr.cell? ⟨gv, 4, none⟩ = some (.int .u32 (xe : Int)) := HX2 4 (show 4 < 8 by decide)
              have vf : wr.cell? ⟨gv, 5, none⟩ = some (.int .u32 (xf : Int)) := HX2 5 (show 5 < 8 by decide)
              have vg : wr.cell? ⟨gv, 6, none⟩ = some (.int .u32 (xg : Int)) := HX2 6 (show 6 < 8 by decide)
              have vh : wr.cell? ⟨gv, 7, none⟩ = some (.int .u32 (xh : Int)) := HX2 7 (show 7 < 8 by decide)
              have ck := HK.out i (by show i < 64; exact hlt)
              have cw := HW.out i (by rw [HWL.out]; exact hlt)
              rw [Nat.zero_add] at ck cw
              have hkb := HKB.out i
              have hwb := HWB.out i
              clear HX2
              generalize shaK.getD i 0 = K at *
              generalize W.getD i 0 = X at *
              go_wp2_with fail
              go_quiet ((go_at_call 73; exact rotated_quiet _ _ _ _ o5 (by omega) (by omega)))
              go_wp2_with fail
              rw [t_walk xa xb xc xd xe xf xg xh K X o5 o6 o7]
              obtain ⟨t, ht⟩ : ∃ t, tN ⟨xa, xb, xc, xd, xe, xf, xg, xh⟩ K X = t := ⟨_, rfl⟩
              have htb : t < 4294967296 := by rw [← ht]; exact Nat.mod_lt _ (by omega)
              rw [ht]
              have HT := Lib.hid ht
              clear ht ck cw ve vh hkb hwb
              obtain ⟨w2, hw2, va, vb, vc, vd, vf, vg, HK2, HW2, bR2⟩ : ∃ w2, wr.drewN nq = w2 ∧ w2.cell? ⟨gv, 0, none⟩ = some (.int .u32 (xa : Int)) ∧ w2.cell? ⟨gv, 1, none⟩ = some (.int .u32 (xb : Int)) ∧ w2.cell? ⟨gv, 2, none⟩ = some (.int .u32 (xc : Int)) ∧ w2.cell? ⟨gv, 3, none⟩ = some (.int .u32 (xd : Int)) ∧
                  w2.cell? ⟨gv, 5, none⟩ = some (.int .u32 (xf : Int)) ∧ w2.cell? ⟨gv, 6, none⟩ = some (.int .u32 (xg : Int)) ∧ Hid (WordsAt w2 gk 0 shaK) ∧ Hid (WordsAt w2 g 0 W) ∧ Below w.heap.size w w2 :=
                ⟨_, rfl, va, vb, vc, vd, vf, vg, Lib.hid HK.out, Lib.hid HW.out, below_drewN bR nq⟩
              rw [hw2]
              clear hw2 HK HW bR nq
              go_quiet ((go_at_call 73; exact rotated_quiet _ _ _ _ o1 (by omega) (by omega)))
              go_wp2_with fail
              rw [u_walk xa xb xc xd xe xf xg xh o1 o2 o3]
              obtain ⟨u, hu⟩ : ∃ u, uN ⟨xa, xb, xc, xd, xe, xf, xg, xh⟩ = u := ⟨_, rfl⟩
              have hub : u < 4294967296 := by rw [← hu]; exact Nat.mod_lt _ (by omega)
              rw [hu]
              have HU := Lib.hid hu
              clear hu
              obtain ⟨w3, hw3, va, vb, vc, vd, vf, vg, HK3, HW3, bR3⟩ : ∃ w3, w2.drewN nq = w3 ∧ w3.cell? ⟨gv, 0, none⟩ = some (.int .u32 (xa : Int)) ∧ w3.cell? ⟨gv, 1, none⟩ = some (.int .u32 (xb : Int)) ∧ w3.cell? ⟨gv, 2, none⟩ = some (.int .u32 (xc : Int)) ∧ w3.cell? ⟨gv, 3, none⟩ = some (.int .u32 (xd : Int)) ∧
                  w3.cell? ⟨gv, 5, none⟩ = some (.int .u32 (xf : Int)) ∧ w3.cell? ⟨gv, 6, none⟩ = some (.int .u32 (xg : Int)) ∧ Hid (WordsAt w3 gk 0 shaK) ∧ Hid (WordsAt w3 g 0 W) ∧ Below w.heap.size w w3 :=
                ⟨_, rfl, va, vb, vc, vd, vf, vg, Lib.hid HK2.out, Lib.hid HW2.out, below_drewN bR2 nq⟩
              rw [hw3]
              clear hw3 HK2 HW2 bR2 nq
              go_still_tail 22, (by kernel_rfl)
              change wpList _ _ _ _ _ w3.drew
              obtain ⟨w4, hw4, HK4, HW4, bR4⟩ : ∃ w4, w3.drew = w4 ∧ Hid (WordsAt w4 gk 0 shaK) ∧ Hid (WordsAt w4 g 0 W) ∧ Below w.heap.size w w4 := ⟨_, rfl, Lib.hid HK3.out, Lib.hid HW3.out, bR3.drew⟩
              rw [hw4]
              clear hw4 HK3 HW3 bR3 va vb vc vd vf vg
              have He : stepE ⟨xa, xb, xc, xd, xe, xf, xg, xh⟩ K X = ⟨(t + u) % 4294967296, xa, xb, xc, (xd + t) % 4294967296, xe, xf, xg⟩ := by
                rw [← HT.out, ← HU.out]; rfl
              rw [He] at Hnext
              clear He HT HU
              go_wp2_with fail
              go_roundw
              case rel => exact ⟨i + 1, w4.heap.size, 8, by omega, by go_num, rfl, Lib.hid (by rw [Hnext.out]; exact words_new w4 (listE ⟨(t + u) % 4294967296, xa, xb, xc, (xd + t) % 4294967296, xe, xf, xg⟩) _), Lib.hid (HK4.out.keep ((Below.refl _ _).alloc (Nat.le_refl _) _)), Lib.hid (HW4.out.keep ((Below.refl _ _).alloc (Nat.le_refl _) _)), bR4.alloc bR4.size _⟩
              case measure => simp [intOf]; omega
            · obtain rfl : i = 64 := by omega
              obtain ⟨x, hx⟩ : ∃ x, roundsN W v 64 = x := ⟨_, rfl⟩
              rw [hx] at HX Hbl
              clear hx hlt hi1 HK HW HWL HWB HKB
              rw [show ((64 : Nat) : Int) = 64 from rfl]
              have HV2 := Lib.hid (HV.out.keep bR)
              have hg1 := Lib.hid (show bh < wr.heap.size from lt_of_cell (HV2.out 0 (show 0 < 8 by decide)))
              have hg2 := Lib.hid (show gv < wr.heap.size from lt_of_cell (HX.out 0 (show 0 < 8 by decide)))
              obtain ⟨ws, hws⟩ : ∃ ws : World, ws = wr := ⟨_, rfl⟩
              rw [← hws] at HV2 HX hg1 hg2 bR
              go_wp2_with fail
              rw [← hws]
              clear hws
              go_loopw [17, 18] (fun ov iv wr => ∃ k : Nat, k ≤ 8 ∧ iv = .int .i64 k ∧ Hid (wr.ownsRow ws.heap.size 75 1 ov k (cells32 ((listE (addE v x)).take k))) ∧ Below ws.heap.size ws wr)
                (fun _ iv _ => 8 - (intOf iv).toNat)
              case atStart => exact ⟨0, by omega, rfl, Lib.hid (World.ownsRow_nil _ _ _ _), Below.refl _ _⟩
              case round =>
                obtain ⟨k, hk, rfl, Ho, bT⟩ := hrel
                by_cases hlt : k < 8
                · have c1 : wr.cell? ⟨bh, 0 + k, none⟩ = _ := (HV2.out.keep bT) k (show k < 8 from hlt)
                  have c2 : wr.cell? ⟨gv, 0 + k, none⟩ = _ := (HX.out.keep bT) k (show k < 8 from hlt)
                  rw [Nat.zero_add] at c1 c2
                  have Hc := Lib.hid (addE_at v x k hlt)
                  generalize (listE v).getD k 0 = p at *
                  generalize (listE x).getD k 0 = q at *
                  have hp1 : u17.ownBlock ≠ some bh := fun e => by
                    have h1 := (Ho.out.lt bh e).1
                    have h2 := hg1.out
                    omega
                  have hp2 : u17.ownBlock ≠ some gv := fun e => by
                    have h1 := (Ho.out.lt gv e).1
                    have h2 := hg2.out
                    omega
                  have hsz := Lib.hid bT.size
                  have hf1 := Lib.hid (lt_of_cell c1)
                  have hf2 := Lib.hid (lt_of_cell c2)
                  have h63 : k + 1 ≤ maxLen := by unfold maxLen; omega
                  have hby : (k + 1) * 4 ≤ 140737488355328 := by omega
                  have k8 : (k : Int) < 8 := by omega
                  have k0 : 0 ≤ (k : Int) := by omega
                  go_wp2_with fail
                  go_region_held3 (fun w' => w'.cell? ⟨bh, k, none⟩ = some (.int .u32 (p : Int)) ∧ w'.cell? ⟨gv, k, none⟩ = some (.int .u32 (q : Int)))
                    (first
                      | go_keep
                      | (go_split_ands
                         refine ⟨?_, ?_⟩
                         · (rw [hgrow.cell_far _ (by simp; have := hf1.out; omega) (Ne.symm hp1)]; assumption)
                         · (rw [hgrow.cell_far _ (by simp; have := hf2.out; omega) (Ne.symm hp2)]; assumption)))
                    ((refine step_append_lies _ (by rfl) _ _ _ (by rfl) ws.heap.size 75 i0 _ 1 4 Tryd.underlying76 hi hz0 hz1 hz2 rfl (by omega) u17 k _ (by rfl) ((Ho.out.alloc _).drew)
                          ⟨wr.heap.size, 0, none⟩ 1 1 [.int .u32 (IntKind.u32.wrap ((p : Int) + (q : Int)))] (by rfl) (by rfl)
                          (World.news_of_block (cs := #[.int .u32 (IntKind.u32.wrap ((p : Int) + (q : Int)))]) (t := 75) (fr := (0, 0)) (heap_alloc_new wr _)) (by simp [Value.oneCell'])
                          (by omega) h63 hby (by simp; have := hsz.out; omega) (wr.heap.size + 1) (by simp) ?_; intro gg cap w1 hown1 hgrow hat hlt))
                  all_goals
                    have bS : Below ws.heap.size ws w1 := ((bT.alloc bT.size _).drew).grown hgrow (by have := hsz.out; simp; omega) (fun q e => (Ho.out.lt q e).1)
                    rw [sum2_walk, ← cells32_snoc, ← Hc.out] at hown1
                    have Hown := Lib.hid hown1
                    clear hown1 hgrow hat hlt c1 c2 hp1 hp2
                    go_wp2_with fail
                    go_roundw
                    case rel => exact ⟨k + 1, by omega, by go_num, Hown, bS⟩
                    case measure => simp [intOf]; omega
                · obtain rfl : k = 8 := by omega
                  have h := Ho.out
                  rw [List.take_of_length_le (show (listE (addE v x)).length ≤ 8 from Nat.le_refl _), ← Hbl.out] at h
                  have Hend := Lib.hid (World.ownsRow.mono h bR.size)
                  have bE := bR.trans (bT.mono bR.size)
                  clear h hlt hk Ho bT
                  go_wp2_with fail
                  go_ret
                  exact ⟨_, rfl, Hend.out, bE⟩
end Go.Proofs.YtnbeebndcgoalaaDoor
