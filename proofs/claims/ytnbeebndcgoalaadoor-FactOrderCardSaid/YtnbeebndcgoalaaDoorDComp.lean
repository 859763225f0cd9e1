/- The contract of package digest's compress: it returns the array of the eight words that a block makes of eight words. Condition: the table of constants reads as the program lays it. -/
import Derived.Test.YtnbeebndcgoalaaDoorDSched
namespace Go.Proofs.YtnbeebndcgoalaaDoor
open Go.RowKit
/-- The table of constants reads as the program lays it. -/
def Konst (w : World) : Prop := WordsAt w 1 0 shaK
theorem Konst.keep {w w' : World} (h : Konst w) (hb : Below w.heap.size w w') : Konst w' := WordsAt.keep h hb
theorem Konst.lt {w : World} (h : Konst w) : 1 < w.heap.size := lt_of_cell (h 0 (by decide))

theorem rotate_at (x : Nat) (z : Int) (w : World) (hx : x < 4294967296) (h1 : 1 ≤ z) (hn : z ≤ 31) :
    Calls Tryd.prog 84 #[.int .u32 (x : Int), .int .i64 z] w fun e w' => e = .returned (.int .u32 ((rotN x z.toNat : Nat) : Int)) ∧ w' = w.drewN 1 := by
  obtain ⟨n, rfl⟩ := Int.eq_ofNat_of_zero_le (show 0 ≤ z by omega)
  exact rotate_calls x n _ hx (by omega) (by omega)

/-- 8 zero words, as the walk lays them. -/
abbrev zeros8 : Array Value := #[.int .u32 0, .int .u32 0, .int .u32 0, .int .u32 0, .int .u32 0, .int .u32 0, .int .u32 0, .int .u32 0]
theorem built8 (a b c d e f g h : Int) : Tryd.prog.built 95 [(0, .int .u32 a), (1, .int .u32 b), (2, .int .u32 c), (3, .int .u32 d), (4, .int .u32 e), (5, .int .u32 f), (6, .int .u32 g), (7, .int .u32 h)] =
    some #[.int .u32 a, .int .u32 b, .int .u32 c, .int .u32 d, .int .u32 e, .int .u32 f, .int .u32 g, .int .u32 h] := by kernel_rfl
theorem wpList_build8 {ops : Array Oper} {rest : List Oper} {o : Oper} {a : Act} {w : World} {Q : Exit → Act → World → Prop} (hg : o.guard = none) (x0 x1 x2 x3 x4 x5 x6 x7 : Operand)
    (ho : o.op = .build 95 #[(0, x0), (1, x1), (2, x2), (3, x3), (4, x4), (5, x5), (6, x6), (7, x7)]) (n0 n1 n2 n3 n4 n5 n6 n7 : Int)
    (h0 : a.eval x0 = .int .u32 n0) (h1 : a.eval x1 = .int .u32 n1) (h2 : a.eval x2 = .int .u32 n2) (h3 : a.eval x3 = .int .u32 n3)
    (h4 : a.eval x4 = .int .u32 n4) (h5 : a.eval x5 = .int .u32 n5) (h6 : a.eval x6 = .int .u32 n6) (h7 : a.eval x7 = .int .u32 n7)
    (h : wpList Tryd.prog ops Q rest (a.put o.dst (.agg #[.int .u32 n0, .int .u32 n1, .int .u32 n2, .int .u32 n3, .int .u32 n4, .int .u32 n5, .int .u32 n6, .int .u32 n7])) w) : wpList Tryd.prog ops Q (o :: rest) a w := by
  have e0 : ((#[(0, x0), (1, x1), (2, x2), (3, x3), (4, x4), (5, x5), (6, x6), (7, x7)] : Array (Nat × Operand)).map fun (i, x) => (i, a.eval x)).toList =
      [(0, a.eval x0), (1, a.eval x1), (2, a.eval x2), (3, a.eval x3), (4, a.eval x4), (5, a.eval x5), (6, a.eval x6), (7, a.eval x7)] := by simp
  have e : Tryd.prog.built 95 ((#[(0, x0), (1, x1), (2, x2), (3, x3), (4, x4), (5, x5), (6, x6), (7, x7)] : Array (Nat × Operand)).map fun (i, x) => (i, a.eval x)).toList =
      some #[.int .u32 n0, .int .u32 n1, .int .u32 n2, .int .u32 n3, .int .u32 n4, .int .u32 n5, .int .u32 n6, .int .u32 n7] := by
    rw [e0, h0, h1, h2, h3, h4, h5, h6, h7]
    exact built8 _ _ _ _ _ _ _ _
  exact wpList_build hg _ _ ho (by rw [e]; rfl) (by rw [e]; exact h)

set_option maxRecDepth 100000 in
set_option maxHeartbeats 4000000 in
theorem compress_calls (v : Eight) (bl : List UInt8) (w : World) (hK : Konst w) (hok : okE v) (hl : bl.length = 64) :
    Calls Tryd.prog 72 #[.agg (cells32 (listE v)).toArray, .agg (cells8 bl).toArray] w fun e W' => e = .returned (.agg (cells32 (listE (blockE v bl))).toArray) ∧ Below w.heap.size w W' := by
  have HK := Lib.hid hK
  have Hok := Lib.hid hok
  have Hl := Lib.hid hl
  clear hK hok hl
  have hi62 : (Tryd.prog.info? 99).map (·.size) = some (cells8 bl).toArray.size := (show (Tryd.prog.info? 99).map (·.size) = some 64 from by kernel_rfl).trans (by simp [cells8_length, Hl.out])
  go_enter Tryd.func72, Tryd.ntmps72
  have b0 : Below w.heap.size w (((w.alloc (.cells (cells32 (listE v)).toArray 95)).alloc (.cells (cells8 bl).toArray 99)).alloc (.cells zeros8 95)) := (alloc3 w _ _ _).2.2.2.2
  go_wp2_with (refine wpList_load_row rfl 99 _ rfl (w.heap.size + 1) rfl 99 (cells8 bl).toArray (0, 0) _ (alloc3 w _ _ _).2.2.1 Tryd.underlying99 rfl hi62 ?_)
  obtain ⟨W0, hW0, f0, f2, b0⟩ : ∃ W0, (((w.alloc (.cells (cells32 (listE v)).toArray 95)).alloc (.cells (cells8 bl).toArray 99)).alloc (.cells zeros8 95)) = W0 ∧
      Arr32 W0 w.heap.size 95 (listE v) ∧ Arr32 W0 (w.heap.size + 2) 95 [0, 0, 0, 0, 0, 0, 0, 0] ∧ Below w.heap.size w W0 := ⟨_, rfl, (alloc3 w _ _ _).2.1, (alloc3 w _ _ _).2.2.2.1, b0⟩
  rw [hW0]
  have z0 : W0.heap.size = w.heap.size + 3 := by rw [← hW0]; simp
  clear hW0
  refine (schedule_calls bl W0 Hl.out).mono ?_
  rintro e W1 ⟨rfl, b1⟩
  have HS := Lib.hid (show (schedN (words16 bl) 48).length = 64 from by rw [schedN_length]; simp [words16])
  have HSb := Lib.hid (schedN_lt (words16 bl) 48 (words16_lt bl))
  obtain ⟨S, hS⟩ : ∃ S, schedN (words16 bl) 48 = S := ⟨_, rfl⟩
  rw [hS] at HS HSb ⊢
  have HSq := Lib.hid hS
  clear hS
  have hi69 : (Tryd.prog.info? 114).map (·.size) = some (cells32 S).toArray.size := (show (Tryd.prog.info? 114).map (·.size) = some 64 from by kernel_rfl).trans (by simp [cells32_length, HS.out])
  have hzz : zeros64.size = (cells32 S).toArray.size := by simp [cells32_length, HS.out]
  go_wp2_with (refine wpList_store_row rfl 114 _ _ rfl W1.heap.size (cells32 S).toArray rfl rfl 114 zeros64 (heap_alloc_new W1 _) hi69 hzz (cells32_one S) ?_)
  obtain ⟨W2, hW2, c0, c2, cS, K2, b2⟩ : ∃ W2, (W1.alloc (.cells zeros64 114)).setRow W1.heap.size (cells32 S).toArray = W2 ∧ Hid (Arr32 W2 w.heap.size 95 (listE v)) ∧ Hid (Arr32 W2 (w.heap.size + 2) 95 [0, 0, 0, 0, 0, 0, 0, 0]) ∧
      Hid (Arr32 W2 W1.heap.size 114 S) ∧ Hid (Konst W2) ∧ Below w.heap.size w W2 := by
    have h1 : w.heap.size + 3 ≤ W1.heap.size := by rw [← z0]; exact b1.size
    have hb : Below w.heap.size w ((W1.alloc (.cells zeros64 114)).setRow W1.heap.size (cells32 S).toArray) := below_setRow ((b0.trans (b1.mono (by omega))).alloc (by omega) _) _ _ (by omega)
    refine ⟨_, rfl, Lib.hid ?_, Lib.hid ?_, Lib.hid ?_, Lib.hid (HK.out.keep hb), hb⟩
    · exact (setRow_other _ _ _ _ (by omega)).trans ((Below.heap_alloc _ _ _ (by omega)).trans ((b1.block _ (by omega)).trans f0))
    · exact (setRow_other _ _ _ _ (by omega)).trans ((Below.heap_alloc _ _ _ (by omega)).trans ((b1.block _ (by omega)).trans f2))
    · exact setRow_heap _ _ _ _ _ _ (heap_alloc_new W1 _)
  rw [hW2]
  have hG : w.heap.size + 3 ≤ W1.heap.size := by rw [← z0]; exact b1.size
  generalize W1.heap.size = G at *
  clear hW2 b0 b1 z0 f0 f2 W1 W0 hi62 hi69 hzz
  have r0 := c0.out.cell 0 (show 0 < 8 by decide)
  have r1 := c0.out.cell 1 (show 1 < 8 by decide)
  have r2 := c0.out.cell 2 (show 2 < 8 by decide)
  have r3 := c0.out.cell 3 (show 3 < 8 by decide)
  have r4 := c0.out.cell 4 (show 4 < 8 by decide)
  have r5 := c0.out.cell 5 (show 5 < 8 by decide)
  have r6 := c0.out.cell 6 (show 6 < 8 by decide)
  have r7 := c0.out.cell 7 (show 7 < 8 by decide)
  simp only [listE, List.getD_cons_zero, List.getD_cons_succ] at r0 r1 r2 r3 r4 r5 r6 r7
  go_wp2_with fail
  go_quiet (fail)
  go_wp2_with fail
  obtain ⟨W3, hW3, d0, d2, dS, K3, b3⟩ : ∃ W3, W2.drewN nq = W3 ∧ Hid (Arr32 W3 w.heap.size 95 (listE v)) ∧ Hid (Arr32 W3 (w.heap.size + 2) 95 [0, 0, 0, 0, 0, 0, 0, 0]) ∧
      Hid (Arr32 W3 G 114 S) ∧ Hid (Konst W3) ∧ Below w.heap.size w W3 := ⟨_, rfl, Lib.hid c0.out, Lib.hid c2.out, Lib.hid cS.out, Lib.hid K2.out, below_drewN b2 nq⟩
  rw [hW3]
  clear hW3 c0 c2 cS K2 b2 r0 r1 r2 r3 r4 r5 r6 r7 nq W2 HK
  have hWb : ∀ j, S.getD j 0 < 4294967296 := fun j => getD_lt _ HSb.out j
  have hKb : ∀ j, shaK.getD j 0 < 4294967296 := getD_lt _ (by decide)
  have HWB := Lib.hid hWb
  have HKB := Lib.hid hKb
  have Hbl : Hid (blockE v bl = addE v (roundsN S v 64)) := Lib.hid (by rw [← HSq.out]; rfl)
  clear hWb hKb HSb HSq
  go_loopw [6, 7, 8, 9, 10, 11, 12, 13, 35] (fun sa sb sc sd se sf sg sh iv wr => ∃ (i : Nat) (x : Eight), i ≤ 64 ∧ iv = .int .i64 i ∧ sa = .int .u32 (x.a : Int) ∧ sb = .int .u32 (x.b : Int) ∧ sc = .int .u32 (x.c : Int) ∧ sd = .int .u32 (x.d : Int) ∧
      se = .int .u32 (x.e : Int) ∧ sf = .int .u32 (x.f : Int) ∧ sg = .int .u32 (x.g : Int) ∧ sh = .int .u32 (x.h : Int) ∧ Hid (roundsN S v i = x) ∧ Hid (okE x) ∧
      Hid (Arr32 wr w.heap.size 95 (listE v)) ∧ Hid (Arr32 wr (w.heap.size + 2) 95 [0, 0, 0, 0, 0, 0, 0, 0]) ∧ Hid (Arr32 wr G 114 S) ∧ Hid (Konst wr) ∧ Below w.heap.size w wr)
    (fun _ _ _ _ _ _ _ _ iv _ => 64 - (intOf iv).toNat)
  case atStart => exact ⟨0, v, by omega, rfl, rfl, rfl, rfl, rfl, rfl, rfl, rfl, rfl, Lib.hid rfl, Hok, d0, d2, dS, K3, b3⟩
  case round =>
    obtain ⟨i, x, hi, rfl, rfl, rfl, rfl, rfl, rfl, rfl, rfl, rfl, Hr, Ho, d0, d2, dS, K3, bR⟩ := hrel
    by_cases hlt : i < 64
    · obtain ⟨xa, xb, xc, xd, xe, xf, xg, xh⟩ := x
      have Hnext : Hid (roundsN S v (i + 1) = stepE ⟨xa, xb, xc, xd, xe, xf, xg, xh⟩ (shaK.getD i 0) (S.getD i 0)) := Lib.hid (by rw [← Hr.out]; rfl)
      have Hok2 : Hid (okE (stepE ⟨xa, xb, xc, xd, xe, xf, xg, xh⟩ (shaK.getD i 0) (S.getD i 0))) := Lib.hid (stepE_ok _ _ _ Ho.out)
      obtain ⟨o1, o2, o3, o4, o5, o6, o7, o8⟩ := Ho.out
      dsimp only at o1 o2 o3 o4 o5 o6 o7 o8
      dsimp only
      have ck := K3.out i (show i < 64 from hlt)
      have cw := dS.out.cell i (by rw [HS.out]; exact hlt)
      rw [Nat.zero_add] at ck
      have hkb := HKB.out i
      have hwb := HWB.out i
      clear Hr Ho
      generalize shaK.getD i 0 = K at *
      generalize S.getD i 0 = X at *
      go_wp2_with fail
      go_quiet ((go_at_call 84; exact rotate_quiet _ _ _ _ o5 (by omega) (by omega)))
      go_wp2_with fail
      rw [t_walk xa xb xc xd xe xf xg xh K X o5 o6 o7]
      obtain ⟨t, ht⟩ : ∃ t, tN ⟨xa, xb, xc, xd, xe, xf, xg, xh⟩ K X = t := ⟨_, rfl⟩
      have htb : t < 4294967296 := by rw [← ht]; exact Nat.mod_lt _ (by omega)
      rw [ht]
      have HT := Lib.hid ht
      clear ht ck cw hkb hwb
      obtain ⟨w2, hw2, e0, e2, eS, K4, bR2⟩ : ∃ w2, wr.drewN nq = w2 ∧ Hid (Arr32 w2 w.heap.size 95 (listE v)) ∧ Hid (Arr32 w2 (w.heap.size + 2) 95 [0, 0, 0, 0, 0, 0, 0, 0]) ∧ Hid (Arr32 w2 G 114 S) ∧ Hid (Konst w2) ∧ Below w.heap.size w w2 :=
        ⟨_, rfl, Lib.hid d0.out, Lib.hid d2.out, Lib.hid dS.out, Lib.hid K3.out, below_drewN bR nq⟩
      rw [hw2]
      clear hw2 d0 d2 dS K3 bR nq
      refine (rotate_at _ _ _ o1 (by omega) (by omega)).mono ?_
      rintro e w' ⟨rfl, rfl⟩
      go_wp2_with fail
      refine (rotate_at _ _ _ o1 (by omega) (by omega)).mono ?_
      rintro e w' ⟨rfl, rfl⟩
      go_wp2_with fail
      refine (rotate_at _ _ _ o1 (by omega) (by omega)).mono ?_
      rintro e w' ⟨rfl, rfl⟩
      rw [show (w2.drewN 2).drewN 1 = w2.drewN 3 from rfl]
      obtain ⟨w3, hw3, e0, e2, eS, K4, bR2⟩ : ∃ w3, w2.drewN 3 = w3 ∧ Hid (Arr32 w3 w.heap.size 95 (listE v)) ∧ Hid (Arr32 w3 (w.heap.size + 2) 95 [0, 0, 0, 0, 0, 0, 0, 0]) ∧ Hid (Arr32 w3 G 114 S) ∧ Hid (Konst w3) ∧ Below w.heap.size w w3 :=
        ⟨_, rfl, Lib.hid e0.out, Lib.hid e2.out, Lib.hid eS.out, Lib.hid K4.out, below_drewN bR2 3⟩
      rw [hw3]
      clear hw3
      go_wp2_with fail
      rw [u_walk xa xb xc xd xe xf xg xh o1 o2 o3]
      have h1 : ∀ u : Nat, ((t : Int) + (u : Int)) % 4294967296 = (((t + u) % 4294967296 : Nat) : Int) := fun u => by omega
      rw [h1]
      clear h1
      have h2 : ((xd : Int) + (t : Int)) % 4294967296 = (((xd + t) % 4294967296 : Nat) : Int) := by omega
      rw [h2]
      have hx : stepE ⟨xa, xb, xc, xd, xe, xf, xg, xh⟩ K X = ⟨(t + uN ⟨xa, xb, xc, xd, xe, xf, xg, xh⟩) % 4294967296, xa, xb, xc, (xd + t) % 4294967296, xe, xf, xg⟩ := by
        rw [← HT.out]; rfl
      exact ⟨⟨i + 1, stepE ⟨xa, xb, xc, xd, xe, xf, xg, xh⟩ K X, by omega, by go_num, by rw [hx], by rw [hx], by rw [hx], by rw [hx], by rw [hx], by rw [hx], by rw [hx], by rw [hx], Hnext, Hok2, e0, e2, eS, K4, bR2⟩, by simp [intOf]; omega⟩
    · obtain rfl : i = 64 := by omega
      have hz8 : (cells32 (listE (addE v x))).toArray.size = 8 := rfl
      have E2 := d2.out
      unfold Arr32 at E2
      have hi58 : (Tryd.prog.info? 95).map (·.size) = some 8 := by kernel_rfl
      have r0 := d0.out.cell 0 (show 0 < 8 by decide)
      have r1 := d0.out.cell 1 (show 1 < 8 by decide)
      have r2 := d0.out.cell 2 (show 2 < 8 by decide)
      have r3 := d0.out.cell 3 (show 3 < 8 by decide)
      have r4 := d0.out.cell 4 (show 4 < 8 by decide)
      have r5 := d0.out.cell 5 (show 5 < 8 by decide)
      have r6 := d0.out.cell 6 (show 6 < 8 by decide)
      have r7 := d0.out.cell 7 (show 7 < 8 by decide)
      simp only [listE, List.getD_cons_zero, List.getD_cons_succ] at r0 r1 r2 r3 r4 r5 r6 r7
      clear hlt hi HWB HKB Hok
      have hm : ∀ a b : Nat, ((a : Int) + (b : Int)) % 4294967296 = (((a + b) % 4294967296 : Nat) : Int) := fun a b => by omega
      have hvals : (#[Value.int IntKind.u32 (((v.a : Int) + (x.a : Int)) % 4294967296), .int .u32 (((v.b : Int) + (x.b : Int)) % 4294967296), .int .u32 (((v.c : Int) + (x.c : Int)) % 4294967296), .int .u32 (((v.d : Int) + (x.d : Int)) % 4294967296),
          .int .u32 (((v.e : Int) + (x.e : Int)) % 4294967296), .int .u32 (((v.f : Int) + (x.f : Int)) % 4294967296), .int .u32 (((v.g : Int) + (x.g : Int)) % 4294967296), .int .u32 (((v.h : Int) + (x.h : Int)) % 4294967296)] : Array Value) = (cells32 (listE (addE v x))).toArray := by
        simp only [hm]; rfl
      clear hm
      go_wp2_with (first
        | (refine wpList_build8 rfl _ _ _ _ _ _ _ _ rfl _ _ _ _ _ _ _ _ rfl rfl rfl rfl rfl rfl rfl rfl ?_; rw [hvals])
        | (refine wpList_store_row rfl 95 _ _ rfl (w.heap.size + 1 + 1) (cells32 (listE (addE v x))).toArray rfl rfl 95 (cells32 [0, 0, 0, 0, 0, 0, 0, 0]).toArray E2 hi58 rfl (cells32_one _) ?_))
      refine bodyPost_ret (v := .agg (cells32 (listE (blockE v bl))).toArray) ?_ rfl ?_
      · rw [Hbl.out, Hr.out]
        exact results_cell_row rfl _ _ (w.heap.size + 1 + 1) 95 (cells32 (listE (addE v x))).toArray (0, 0) _ rfl (setRow_heap wr (w.heap.size + 1 + 1) (cells32 [0, 0, 0, 0, 0, 0, 0, 0]).toArray (cells32 (listE (addE v x))).toArray 95 (0, 0) E2) Tryd.underlying95 rfl hi58
      · exact ⟨rfl, below_setRow bR _ _ (by omega)⟩
end Go.Proofs.YtnbeebndcgoalaaDoor
