/- Words for the laws' walks, and the contract of the laws' sane. Conditions: the table of constants reads as the program lays it; the variable errForm holds an error of its own. -/
import Derived.Test.YtnbeebndcgoalaaDoorFPre
import Derived.Test.YtnbeebndcgoalaaDoorFRea
namespace Go.Proofs.YtnbeebndcgoalaaDoor
open Go.RowKit
theorem wpList_load_fact {ops : Array Oper} {rest : List Oper} {o : Oper} {a : Act} {w : World} {Q : Exit → Act → World → Prop} (hw : Region.wanted o (yielded ops a.tmps) = true) (x : Operand) (ho : o.op = .load 23 x)
    (g : Nat) (hx : a.eval x = .pointer (some ⟨g, 0, none⟩)) (v : Nat → Int) (t : ByteArray) (hg : w.heap[g]? = some (.cells (factC v t) 23 (0, 0)))
    (h : wpList Tryd.prog ops Q rest (a.put o.dst (.agg (factC v t))) w) : wpList Tryd.prog ops Q (o :: rest) a w :=
  wpList_step fun _ hK => by
    rw [if_pos hw]
    exact wp_load_row 23 x ho g hx 23 (factC v t) (0, 0) _ hg Tryd.underlying23 rfl (hiC v t) (hK _ _ h)
/-- A fact with another ID. -/
def oddV : Nat → Int := fun i => if i = 1 then 1 else rateV 1 1000000 i
theorem sane_ok : okT (rateV 1 1000000) ⟨#[]⟩ = true := by decide +kernel
theorem sane_odd : okT oddV ⟨#[]⟩ = false := by decide +kernel
theorem sane_zero : okT (rateV 1 0) ⟨#[]⟩ = false := by decide +kernel
theorem sane_25 : okT (rateV 2 5) ⟨#[]⟩ = true := by decide +kernel
theorem sane_19 : okT (rateV 1 9) ⟨#[]⟩ = true := by decide +kernel
/-- The example's encoding. -/
def codeL : List UInt8 := [14, 0, 2, 10, 0, 0, 0, 0, 0, 0, 0, 0, 0, 128, 137, 122, 0, 6, 0, 0]
theorem sane_code : encV (rateV 1 1000000) [] = codeL := by decide +kernel
theorem rd_of_code (v : Nat → Int) (t : ByteArray) (h : okT v t = true) (s : ByteArray) (hs : s.data.toList = encV v t.data.toList) : rdE s = 0 ∧ factC (rdV s) (rdT s) = factC v t ∧ okT (rdV s) (rdT s) = true := by
  have h1 := rdF_enc v t.data.toList (okT_fits h)
  rw [← hs] at h1
  have e1 : rdV s = nthI ((List.range 17).map v) := by unfold rdV; rw [h1]
  have e2 : rdT s = t := by unfold rdT; rw [h1]
  have e3 : ∀ i, i < 17 → rdV s i = v i := fun i hi => by rw [e1]; exact nthI_range v 17 i hi
  refine ⟨by unfold rdE; rw [h1], ?_, ?_⟩
  · rw [e2]
    have : ∀ i, i < 17 → Value.int .i64 (rdV s i) = Value.int .i64 (v i) := fun i hi => by rw [e3 i hi]
    simp only [factC, this 0 (by omega), this 1 (by omega), this 2 (by omega), this 3 (by omega), this 4 (by omega), this 5 (by omega), this 6 (by omega), this 7 (by omega), this 8 (by omega), this 9 (by omega), this 10 (by omega), this 11 (by omega), this 12 (by omega), this 13 (by omega), this 14 (by omega), this 15 (by omega), this 16 (by omega)]
  · rw [e2, ← h]
    exact decide_eq_decide.2 (okF_cong _ _ _ e3)
theorem Decode_code (v : Nat → Int) (t : ByteArray) (h : okT v t = true) (s : ByteArray) (hs : s.data.toList = encV v t.data.toList) (a : Addr) (w : World) (hE : ErrK a w) (hsz : s.size ≤ 9223372036854775807) :
    Calls Tryd.prog 25 #[.string s] w fun e W' => e = .returned (.tuple #[.agg (factC v t), .int .i64 0]) ∧ Below w.heap.size w W' := by
  obtain ⟨h1, h2, h3⟩ := rd_of_code v t h s hs
  have e1 : dcE s = 0 := by unfold dcE; rw [if_pos h1, h3]; rfl
  have e2 : dcV s = rdV s := by unfold dcV; rw [e1]; rfl
  have e3 : dcT s = rdT s := by unfold dcT; rw [e1]; rfl
  have := Decode_calls s a w hE hsz
  rw [e1, e2, e3, h2] at this
  exact this
theorem Decode_none (a : Addr) (w : World) (hE : ErrK a w) : Calls Tryd.prog 25 #[.string ⟨#[]⟩] w fun e W' => e = .returned (.tuple #[.agg (factC zeroV ⟨#[]⟩), .int .i64 10]) ∧ Below w.heap.size w W' := by
  have h0 : rdE ⟨#[]⟩ = 10 := by decide +kernel
  have e1 : dcE ⟨#[]⟩ = 10 := by unfold dcE; rw [h0]; rfl
  have e2 : dcV ⟨#[]⟩ = zeroV := by unfold dcV; rw [e1]; rfl
  have e3 : dcT ⟨#[]⟩ = ⟨#[]⟩ := by unfold dcT; rw [e1]; rfl
  have := Decode_calls ⟨#[]⟩ a w hE (by decide)
  rw [e1, e2, e3] at this
  exact this
theorem shaF_length (l : List UInt8) : (shaF l).length = 32 := rfl

set_option maxRecDepth 100000 in
set_option maxHeartbeats 8000000 in
theorem sane_calls (a : Addr) (w : World) (hK : Konst w) (hE : ErrK a w) : Calls Tryd.prog 12 #[] w fun e W' => e = .returned (.bool true) ∧ Below w.heap.size w W' := by
  have hgE : 0 < w.heap.size := World.block_lt_of_cell? w _ hE
  have HK := Lib.hid hK
  have HE := Lib.hid hE
  clear hK hE
  have DE := Lib.hid (fun W (h : ErrK a W) => Decode_code (rateV 1 1000000) ⟨#[]⟩ sane_ok ⟨codeL.toArray⟩ sane_code.symm a W h (by decide))
  have DN := Lib.hid (fun W (h : ErrK a W) => Decode_none a W h)
  have CE : Hid (∀ W, Calls Tryd.prog 21 #[.agg (factC (rateV 1 1000000) ⟨#[]⟩)] W fun e W' => e = .returned (.tuple #[.string ⟨codeL.toArray⟩, .int .i64 0]) ∧ Below W.heap.size W W') := Lib.hid (fun W => by
    have h := Encode_calls (rateV 1 1000000) ⟨#[]⟩ W
    rw [show codeF (rateV 1 1000000) ⟨#[]⟩ = codeL by unfold codeF; rw [sane_ok]; exact sane_code, show errF (rateV 1 1000000) ⟨#[]⟩ = 0 by unfold errF; rw [sane_ok]; rfl] at h
    exact h)
  have CO : Hid (∀ W, Calls Tryd.prog 21 #[.agg (factC oddV ⟨#[]⟩)] W fun e W' => e = .returned (.tuple #[.string ⟨#[]⟩, .int .i64 50]) ∧ Below W.heap.size W W') := Lib.hid (fun W => by
    have h := Encode_calls oddV ⟨#[]⟩ W
    rw [show codeF oddV ⟨#[]⟩ = [] by unfold codeF; rw [sane_odd]; rfl, show errF oddV ⟨#[]⟩ = 50 by unfold errF; rw [sane_odd]; rfl] at h
    exact h)
  have CI : Hid (∀ W, Konst W → Calls Tryd.prog 23 #[.agg (factC (rateV 1 1000000) ⟨#[]⟩)] W fun e W' => e = .returned (.tuple #[.string ⟨(idF (rateV 1 1000000) ⟨#[]⟩).toArray⟩, .int .i64 0]) ∧ Below W.heap.size W W') := Lib.hid (fun W hK => by
    have h := ID_calls (rateV 1 1000000) ⟨#[]⟩ W hK
    rw [show errF (rateV 1 1000000) ⟨#[]⟩ = 0 by unfold errF; rw [sane_ok]; rfl] at h
    exact h)
  have hidl : (⟨(idF (rateV 1 1000000) ⟨#[]⟩).toArray⟩ : ByteArray).size = 32 := by
    show (idF (rateV 1 1000000) ⟨#[]⟩).length = 32
    unfold idF
    rw [sane_ok]
    exact shaF_length _
  generalize idF (rateV 1 1000000) ⟨#[]⟩ = D at *
  have V1 := Lib.hid (fun W => Valid_eq (rateV 1 1000000) ⟨#[]⟩ true sane_ok W)
  have V2 := Lib.hid (fun W => Valid_eq oddV ⟨#[]⟩ false sane_odd W)
  have V3 := Lib.hid (fun W => Valid_eq (rateV 1 0) ⟨#[]⟩ false sane_zero W)
  have S1 : Hid (∀ W, Calls Tryd.prog 16 #[.agg (factC (rateV 1 1000000) ⟨#[]⟩), .agg (factC (rateV 1 1000000) ⟨#[]⟩)] W fun e W' => e = .returned (.bool true) ∧ Below W.heap.size W W') := Lib.hid (fun W => by
    have h := Same_calls (rateV 1 1000000) (rateV 1 1000000) ⟨#[]⟩ ⟨#[]⟩ W
    rw [show eqB (rateV 1 1000000) (rateV 1 1000000) ⟨#[]⟩ ⟨#[]⟩ = true by rw [eqB_iff]; exact ⟨fun _ _ => rfl, rfl⟩] at h
    exact h)
  have S2 : Hid (∀ W, Calls Tryd.prog 16 #[.agg (factC (rateV 1 1000000) ⟨#[]⟩), .agg (factC oddV ⟨#[]⟩)] W fun e W' => e = .returned (.bool false) ∧ Below W.heap.size W W') := Lib.hid (fun W => by
    have h := Same_calls (rateV 1 1000000) oddV ⟨#[]⟩ ⟨#[]⟩ W
    rw [show eqB (rateV 1 1000000) oddV ⟨#[]⟩ ⟨#[]⟩ = false by
      rw [← Bool.not_eq_true, eqB_iff]; rintro ⟨h, -⟩; exact absurd (h 1 (by omega)) (by decide)] at h
    exact h)
  have KC := Lib.hid (fun W => Key_calls (rateV 1 1000000) ⟨#[]⟩ W)
  have P1 : Hid (∀ W, Calls Tryd.prog 19 #[.agg (factC (rateV 2 5) ⟨#[]⟩), .agg (factC (rateV 1 9) ⟨#[]⟩)] W fun e W' => e = .returned (.bool true) ∧ Below W.heap.size W W') := Lib.hid (fun W => by
    have h := Prevails_calls (rateV 2 5) (rateV 1 9) ⟨#[]⟩ ⟨#[]⟩ W
    rw [show pvB (rateV 2 5) ⟨#[]⟩ (rateV 1 9) ⟨#[]⟩ = true by decide +kernel] at h
    exact h)
  have P2 : Hid (∀ W, Calls Tryd.prog 19 #[.agg (factC (rateV 1 9) ⟨#[]⟩), .agg (factC (rateV 2 5) ⟨#[]⟩)] W fun e W' => e = .returned (.bool false) ∧ Below W.heap.size W W') := Lib.hid (fun W => by
    have h := Prevails_calls (rateV 1 9) (rateV 2 5) ⟨#[]⟩ ⟨#[]⟩ W
    rw [show pvB (rateV 1 9) ⟨#[]⟩ (rateV 2 5) ⟨#[]⟩ = false by decide +kernel] at h
    exact h)
  have P3 : Hid (∀ W, Calls Tryd.prog 19 #[.agg (factC (rateV 1 1000000) ⟨#[]⟩), .agg (factC (rateV 1 1000000) ⟨#[]⟩)] W fun e W' => e = .returned (.bool false) ∧ Below W.heap.size W W') := Lib.hid (fun W => by
    have h := Prevails_calls (rateV 1 1000000) (rateV 1 1000000) ⟨#[]⟩ ⟨#[]⟩ W
    rw [show pvB (rateV 1 1000000) ⟨#[]⟩ (rateV 1 1000000) ⟨#[]⟩ = false by decide +kernel] at h
    exact h)
  have hq : ∀ W, (binOp .eql 28 (keyV (rateV 1 1000000)) (.agg #[.int .i64 7, .int .i64 3, .int .i64 5])).run Tryd.prog W = .ok (.bool true) W := fun W => key_eql (rateV 1 1000000) (rateV 1 1000000) true (by decide +kernel) W
  have R1 := Lib.hid (fun W => rate_calls 1 1000000 W)
  have R2 := Lib.hid (fun W => rate_calls 1 0 W)
  have R3 := Lib.hid (fun W => rate_calls 2 5 W)
  have R4 := Lib.hid (fun W => rate_calls 1 9 W)
  have hodd : ∀ W : World, ∀ b : Nat, W.heap[b]? = some (.cells (factC (rateV 1 1000000) ⟨#[]⟩) 23 (0, 0)) → (W.setCell ⟨b, 1, none⟩ (.int .i64 1)).heap[b]? = some (.cells (factC oddV ⟨#[]⟩) 23 (0, 0)) := fun W b h => by
    rw [heap_setCell_same _ _ _ _ _ _ h]; rfl
  have hodd := Lib.hid hodd
  generalize rateV 1 1000000 = f at *
  generalize oddV = g at *
  generalize rateV 1 0 = f0 at *
  generalize rateV 2 5 = f2 at *
  generalize rateV 1 9 = f9 at *
  go_enter Tryd.func12, Tryd.ntmps12
  go_wp2_with fail
  refine (R1.out _).mono ?_
  rintro e W1 ⟨rfl, b1⟩
  have B1 := Lib.hid (b1)
  clear b1
  have honeF := factC_one f ⟨#[]⟩
  go_upto_region 2 with (first
      | (refine wpList_store_row rfl 23 _ _ rfl W1.heap.size (factC f ⟨#[]⟩) rfl rfl 23 _ (heap_new W1 _) (hiC _ _) rfl honeF ?_))
  have hBF : w.heap.size ≤ W1.heap.size := B1.out.size
  obtain ⟨W2, hW2, F2, B2, hs2⟩ : ∃ W2, (W1.alloc (.cells (factC zeroV ⟨#[]⟩) 23)).setRow W1.heap.size (factC f ⟨#[]⟩) = W2 ∧ Hid (W2.heap[W1.heap.size]? = some (.cells (factC f ⟨#[]⟩) 23 (0, 0))) ∧ Hid (Below w.heap.size w W2) ∧ Hid (W1.heap.size < W2.heap.size) :=
    ⟨_, rfl, Lib.hid (setRow_heap _ _ _ _ _ _ (heap_new W1 _)), Lib.hid (below_setRow' (B1.out.alloc B1.out.size _) _ _ B1.out.size), Lib.hid (by simp)⟩
  rw [hW2]
  clear hW2  B1
  have hleF := hBF
  clear hBF
  generalize W1.heap.size = AF at *
  have honeO := factC_one f ⟨#[]⟩
  go_upto_region 3 with (first
      | (refine wpList_store_row rfl 23 _ _ rfl W2.heap.size (factC f ⟨#[]⟩) rfl rfl 23 _ (heap_new W2 _) (hiC _ _) rfl honeO ?_)
      | (refine wpList_load_fact rfl _ rfl AF rfl f ⟨#[]⟩ F2.out ?_))
  have hltFO : AF < W2.heap.size := (Array.getElem?_eq_some_iff.1 F2.out).1
  have hBO : w.heap.size ≤ W2.heap.size := B2.out.size
  obtain ⟨W3, hW3, F3, O3, B3, hs3⟩ : ∃ W3, (W2.alloc (.cells (factC zeroV ⟨#[]⟩) 23)).setRow W2.heap.size (factC f ⟨#[]⟩) = W3 ∧ Hid (W3.heap[AF]? = some (.cells (factC f ⟨#[]⟩) 23 (0, 0))) ∧ Hid (W3.heap[W2.heap.size]? = some (.cells (factC f ⟨#[]⟩) 23 (0, 0))) ∧ Hid (Below w.heap.size w W3) ∧ Hid (W2.heap.size < W3.heap.size) :=
    ⟨_, rfl, Lib.hid ((setRow_other _ _ _ _ (Nat.ne_of_lt (Array.getElem?_eq_some_iff.1 F2.out).1)).trans (row_aft _ _ _ _ F2.out)), Lib.hid (setRow_heap _ _ _ _ _ _ (heap_new W2 _)), Lib.hid (below_setRow' (B2.out.alloc B2.out.size _) _ _ B2.out.size), Lib.hid (by simp)⟩
  rw [hW3]
  clear hW3 F2 B2
  have hleO := hBO
  clear hBO
  generalize W2.heap.size = AO at *
  have cO : W3.cell? ⟨AO, 1, none⟩ = some (.int .i64 (f 1)) := (row18 O3.out).2.1
  have zO : W3.frozen? ⟨AO, 1, none⟩ = false := frozen_of_row _ _ _ _ _ O3.out
  go_upto_region 4 with (fail)
  obtain ⟨W4, hW4, F4, O4, B4⟩ : ∃ W4, W3.setCell ⟨AO, 1, none⟩ (.int .i64 1) = W4 ∧ Hid (W4.heap[AF]? = some (.cells (factC f ⟨#[]⟩) 23 (0, 0))) ∧ Hid (W4.heap[AO]? = some (.cells (factC g ⟨#[]⟩) 23 (0, 0))) ∧ Hid (Below w.heap.size w W4) :=
    ⟨_, rfl, Lib.hid ((heap_setCell_other _ _ _ _ (by simp; omega)).trans F3.out), Lib.hid (hodd.out _ _ O3.out), Lib.hid (B3.out.setCell (p := ⟨AO, 1, none⟩) (by omega) _)⟩
  rw [hW4]
  clear hW4 F3 O3 B3
  clear cO zO
  go_wp2_with (first
      | (refine wpList_load_fact rfl _ rfl AF rfl f ⟨#[]⟩ F4.out ?_)
      | (refine wpList_load_fact rfl _ rfl AO rfl g ⟨#[]⟩ O4.out ?_))
  refine (CE.out _).mono ?_
  rintro e W5 ⟨rfl, b5⟩
  have F5 := Lib.hid (Hl.row b5 F4.out)
  have O5 := Lib.hid (Hl.row b5 O4.out)
  have B5 := Lib.hid (B4.out.trans (Below.mono b5 B4.out.size))
  clear F4 O4 B4
  clear b5
  go_wp2_with (first
      | (refine wpList_load_fact rfl _ rfl AF rfl f ⟨#[]⟩ F5.out ?_)
      | (refine wpList_load_fact rfl _ rfl AO rfl g ⟨#[]⟩ O5.out ?_))
  refine (DE.out _ (HE.out.keep B5.out hgE)).mono ?_
  rintro e W6 ⟨rfl, b6⟩
  have F6 := Lib.hid (Hl.row b6 F5.out)
  have O6 := Lib.hid (Hl.row b6 O5.out)
  have B6 := Lib.hid (B5.out.trans (Below.mono b6 B5.out.size))
  clear F5 O5 B5
  clear b6
  have honeG := factC_one f ⟨#[]⟩
  go_upto_region 6 with (first
      | (refine wpList_store_row rfl 23 _ _ rfl W6.heap.size (factC f ⟨#[]⟩) rfl rfl 23 _ (heap_new W6 _) (hiC _ _) rfl honeG ?_)
      | (refine wpList_load_fact rfl _ rfl AF rfl f ⟨#[]⟩ F6.out ?_)
      | (refine wpList_load_fact rfl _ rfl AO rfl g ⟨#[]⟩ O6.out ?_))
  have hltFG : AF < W6.heap.size := (Array.getElem?_eq_some_iff.1 F6.out).1
  have hltOG : AO < W6.heap.size := (Array.getElem?_eq_some_iff.1 O6.out).1
  have hBG : w.heap.size ≤ W6.heap.size := B6.out.size
  obtain ⟨W7, hW7, F7, O7, G7, B7, hs7⟩ : ∃ W7, (W6.alloc (.cells (factC zeroV ⟨#[]⟩) 23)).setRow W6.heap.size (factC f ⟨#[]⟩) = W7 ∧ Hid (W7.heap[AF]? = some (.cells (factC f ⟨#[]⟩) 23 (0, 0))) ∧ Hid (W7.heap[AO]? = some (.cells (factC g ⟨#[]⟩) 23 (0, 0))) ∧ Hid (W7.heap[W6.heap.size]? = some (.cells (factC f ⟨#[]⟩) 23 (0, 0))) ∧ Hid (Below w.heap.size w W7) ∧ Hid (W6.heap.size < W7.heap.size) :=
    ⟨_, rfl, Lib.hid ((setRow_other _ _ _ _ (Nat.ne_of_lt (Array.getElem?_eq_some_iff.1 F6.out).1)).trans (row_aft _ _ _ _ F6.out)), Lib.hid ((setRow_other _ _ _ _ (Nat.ne_of_lt (Array.getElem?_eq_some_iff.1 O6.out).1)).trans (row_aft _ _ _ _ O6.out)), Lib.hid (setRow_heap _ _ _ _ _ _ (heap_new W6 _)), Lib.hid (below_setRow' (B6.out.alloc B6.out.size _) _ _ B6.out.size), Lib.hid (by simp)⟩
  rw [hW7]
  clear hW7 F6 O6 B6
  have hleG := hBG
  clear hBG
  generalize W6.heap.size = AG at *
  go_wp2_with (first
      | (refine wpList_load_fact rfl _ rfl AF rfl f ⟨#[]⟩ F7.out ?_)
      | (refine wpList_load_fact rfl _ rfl AO rfl g ⟨#[]⟩ O7.out ?_)
      | (refine wpList_load_fact rfl _ rfl AG rfl f ⟨#[]⟩ G7.out ?_))
  refine (CI.out _ (HK.out.keep B7.out)).mono ?_
  rintro e W8 ⟨rfl, b8⟩
  have F8 := Lib.hid (Hl.row b8 F7.out)
  have O8 := Lib.hid (Hl.row b8 O7.out)
  have G8 := Lib.hid (Hl.row b8 G7.out)
  have B8 := Lib.hid (B7.out.trans (Below.mono b8 B7.out.size))
  clear F7 O7 G7 B7
  clear b8
  go_wp2_with (first
      | (refine wpList_load_fact rfl _ rfl AF rfl f ⟨#[]⟩ F8.out ?_)
      | (refine wpList_load_fact rfl _ rfl AO rfl g ⟨#[]⟩ O8.out ?_)
      | (refine wpList_load_fact rfl _ rfl AG rfl f ⟨#[]⟩ G8.out ?_))
  refine (CO.out _).mono ?_
  rintro e W9 ⟨rfl, b9⟩
  have F9 := Lib.hid (Hl.row b9 F8.out)
  have O9 := Lib.hid (Hl.row b9 O8.out)
  have G9 := Lib.hid (Hl.row b9 G8.out)
  have B9 := Lib.hid (B8.out.trans (Below.mono b9 B8.out.size))
  clear F8 O8 G8 B8
  clear b9
  go_wp2_with (first
      | (refine wpList_load_fact rfl _ rfl AF rfl f ⟨#[]⟩ F9.out ?_)
      | (refine wpList_load_fact rfl _ rfl AO rfl g ⟨#[]⟩ O9.out ?_)
      | (refine wpList_load_fact rfl _ rfl AG rfl f ⟨#[]⟩ G9.out ?_))
  refine (DN.out _ (HE.out.keep B9.out hgE)).mono ?_
  rintro e W10 ⟨rfl, b10⟩
  have F10 := Lib.hid (Hl.row b10 F9.out)
  have O10 := Lib.hid (Hl.row b10 O9.out)
  have G10 := Lib.hid (Hl.row b10 G9.out)
  have B10 := Lib.hid (B9.out.trans (Below.mono b10 B9.out.size))
  clear F9 O9 G9 B9
  clear b10
  have honeZ := factC_one zeroV ⟨#[]⟩
  go_upto_region 9 with (first
      | (refine wpList_store_row rfl 23 _ _ rfl W10.heap.size (factC zeroV ⟨#[]⟩) rfl rfl 23 _ (heap_new W10 _) (hiC _ _) rfl honeZ ?_)
      | (refine wpList_load_fact rfl _ rfl AF rfl f ⟨#[]⟩ F10.out ?_)
      | (refine wpList_load_fact rfl _ rfl AO rfl g ⟨#[]⟩ O10.out ?_)
      | (refine wpList_load_fact rfl _ rfl AG rfl f ⟨#[]⟩ G10.out ?_))
  have hltFZ : AF < W10.heap.size := (Array.getElem?_eq_some_iff.1 F10.out).1
  have hltOZ : AO < W10.heap.size := (Array.getElem?_eq_some_iff.1 O10.out).1
  have hltGZ : AG < W10.heap.size := (Array.getElem?_eq_some_iff.1 G10.out).1
  have hBZ : w.heap.size ≤ W10.heap.size := B10.out.size
  obtain ⟨W11, hW11, F11, O11, G11, Z11, B11, hs11⟩ : ∃ W11, (W10.alloc (.cells (factC zeroV ⟨#[]⟩) 23)).setRow W10.heap.size (factC zeroV ⟨#[]⟩) = W11 ∧ Hid (W11.heap[AF]? = some (.cells (factC f ⟨#[]⟩) 23 (0, 0))) ∧ Hid (W11.heap[AO]? = some (.cells (factC g ⟨#[]⟩) 23 (0, 0))) ∧ Hid (W11.heap[AG]? = some (.cells (factC f ⟨#[]⟩) 23 (0, 0))) ∧ Hid (W11.heap[W10.heap.size]? = some (.cells (factC zeroV ⟨#[]⟩) 23 (0, 0))) ∧ Hid (Below w.heap.size w W11) ∧ Hid (W10.heap.size < W11.heap.size) :=
    ⟨_, rfl, Lib.hid ((setRow_other _ _ _ _ (Nat.ne_of_lt (Array.getElem?_eq_some_iff.1 F10.out).1)).trans (row_aft _ _ _ _ F10.out)), Lib.hid ((setRow_other _ _ _ _ (Nat.ne_of_lt (Array.getElem?_eq_some_iff.1 O10.out).1)).trans (row_aft _ _ _ _ O10.out)), Lib.hid ((setRow_other _ _ _ _ (Nat.ne_of_lt (Array.getElem?_eq_some_iff.1 G10.out).1)).trans (row_aft _ _ _ _ G10.out)), Lib.hid (setRow_heap _ _ _ _ _ _ (heap_new W10 _)), Lib.hid (below_setRow' (B10.out.alloc B10.out.size _) _ _ B10.out.size), Lib.hid (by simp)⟩
  rw [hW11]
  clear hW11 F10 O10 G10 B10
  have hleZ := hBZ
  clear hBZ
  generalize W10.heap.size = AZ at *
  go_wp2_with (first
      | (refine wpList_load_fact rfl _ rfl AF rfl f ⟨#[]⟩ F11.out ?_)
      | (refine wpList_load_fact rfl _ rfl AO rfl g ⟨#[]⟩ O11.out ?_)
      | (refine wpList_load_fact rfl _ rfl AG rfl f ⟨#[]⟩ G11.out ?_)
      | (refine wpList_load_fact rfl _ rfl AZ rfl zeroV ⟨#[]⟩ Z11.out ?_))
  refine (V1.out _).mono ?_
  rintro e W12 ⟨rfl, b12⟩
  have F12 := Lib.hid (Hl.row b12 F11.out)
  have O12 := Lib.hid (Hl.row b12 O11.out)
  have G12 := Lib.hid (Hl.row b12 G11.out)
  have Z12 := Lib.hid (Hl.row b12 Z11.out)
  have B12 := Lib.hid (B11.out.trans (Below.mono b12 B11.out.size))
  clear F11 O11 G11 Z11 B11
  clear b12
  go_wp2_with (first
      | (refine wpList_load_fact rfl _ rfl AF rfl f ⟨#[]⟩ F12.out ?_)
      | (refine wpList_load_fact rfl _ rfl AO rfl g ⟨#[]⟩ O12.out ?_)
      | (refine wpList_load_fact rfl _ rfl AG rfl f ⟨#[]⟩ G12.out ?_)
      | (refine wpList_load_fact rfl _ rfl AZ rfl zeroV ⟨#[]⟩ Z12.out ?_))
  refine (V2.out _).mono ?_
  rintro e W13 ⟨rfl, b13⟩
  have F13 := Lib.hid (Hl.row b13 F12.out)
  have O13 := Lib.hid (Hl.row b13 O12.out)
  have G13 := Lib.hid (Hl.row b13 G12.out)
  have Z13 := Lib.hid (Hl.row b13 Z12.out)
  have B13 := Lib.hid (B12.out.trans (Below.mono b13 B12.out.size))
  clear F12 O12 G12 Z12 B12
  clear b13
  go_wp2_with (first
      | (refine wpList_load_fact rfl _ rfl AF rfl f ⟨#[]⟩ F13.out ?_)
      | (refine wpList_load_fact rfl _ rfl AO rfl g ⟨#[]⟩ O13.out ?_)
      | (refine wpList_load_fact rfl _ rfl AG rfl f ⟨#[]⟩ G13.out ?_)
      | (refine wpList_load_fact rfl _ rfl AZ rfl zeroV ⟨#[]⟩ Z13.out ?_))
  refine (R2.out _).mono ?_
  rintro e W14 ⟨rfl, b14⟩
  have F14 := Lib.hid (Hl.row b14 F13.out)
  have O14 := Lib.hid (Hl.row b14 O13.out)
  have G14 := Lib.hid (Hl.row b14 G13.out)
  have Z14 := Lib.hid (Hl.row b14 Z13.out)
  have B14 := Lib.hid (B13.out.trans (Below.mono b14 B13.out.size))
  clear F13 O13 G13 Z13 B13
  clear b14
  go_wp2_with (first
      | (refine wpList_load_fact rfl _ rfl AF rfl f ⟨#[]⟩ F14.out ?_)
      | (refine wpList_load_fact rfl _ rfl AO rfl g ⟨#[]⟩ O14.out ?_)
      | (refine wpList_load_fact rfl _ rfl AG rfl f ⟨#[]⟩ G14.out ?_)
      | (refine wpList_load_fact rfl _ rfl AZ rfl zeroV ⟨#[]⟩ Z14.out ?_))
  refine (V3.out _).mono ?_
  rintro e W15 ⟨rfl, b15⟩
  have F15 := Lib.hid (Hl.row b15 F14.out)
  have O15 := Lib.hid (Hl.row b15 O14.out)
  have G15 := Lib.hid (Hl.row b15 G14.out)
  have Z15 := Lib.hid (Hl.row b15 Z14.out)
  have B15 := Lib.hid (B14.out.trans (Below.mono b15 B14.out.size))
  clear F14 O14 G14 Z14 B14
  clear b15
  go_wp2_with (first
      | (refine wpList_load_fact rfl _ rfl AF rfl f ⟨#[]⟩ F15.out ?_)
      | (refine wpList_load_fact rfl _ rfl AO rfl g ⟨#[]⟩ O15.out ?_)
      | (refine wpList_load_fact rfl _ rfl AG rfl f ⟨#[]⟩ G15.out ?_)
      | (refine wpList_load_fact rfl _ rfl AZ rfl zeroV ⟨#[]⟩ Z15.out ?_))
  refine (S1.out _).mono ?_
  rintro e W16 ⟨rfl, b16⟩
  have F16 := Lib.hid (Hl.row b16 F15.out)
  have O16 := Lib.hid (Hl.row b16 O15.out)
  have G16 := Lib.hid (Hl.row b16 G15.out)
  have Z16 := Lib.hid (Hl.row b16 Z15.out)
  have B16 := Lib.hid (B15.out.trans (Below.mono b16 B15.out.size))
  clear F15 O15 G15 Z15 B15
  clear b16
  go_wp2_with (first
      | (refine wpList_load_fact rfl _ rfl AF rfl f ⟨#[]⟩ F16.out ?_)
      | (refine wpList_load_fact rfl _ rfl AO rfl g ⟨#[]⟩ O16.out ?_)
      | (refine wpList_load_fact rfl _ rfl AG rfl f ⟨#[]⟩ G16.out ?_)
      | (refine wpList_load_fact rfl _ rfl AZ rfl zeroV ⟨#[]⟩ Z16.out ?_))
  refine (S2.out _).mono ?_
  rintro e W17 ⟨rfl, b17⟩
  have F17 := Lib.hid (Hl.row b17 F16.out)
  have O17 := Lib.hid (Hl.row b17 O16.out)
  have G17 := Lib.hid (Hl.row b17 G16.out)
  have Z17 := Lib.hid (Hl.row b17 Z16.out)
  have B17 := Lib.hid (B16.out.trans (Below.mono b17 B16.out.size))
  clear F16 O16 G16 Z16 B16
  clear b17
  go_wp2_with (first
      | (refine wpList_load_fact rfl _ rfl AF rfl f ⟨#[]⟩ F17.out ?_)
      | (refine wpList_load_fact rfl _ rfl AO rfl g ⟨#[]⟩ O17.out ?_)
      | (refine wpList_load_fact rfl _ rfl AG rfl f ⟨#[]⟩ G17.out ?_)
      | (refine wpList_load_fact rfl _ rfl AZ rfl zeroV ⟨#[]⟩ Z17.out ?_))
  refine (KC.out _).mono ?_
  rintro e W18 ⟨rfl, b18⟩
  have F18 := Lib.hid (Hl.row b18 F17.out)
  have O18 := Lib.hid (Hl.row b18 O17.out)
  have G18 := Lib.hid (Hl.row b18 G17.out)
  have Z18 := Lib.hid (Hl.row b18 Z17.out)
  have B18 := Lib.hid (B17.out.trans (Below.mono b18 B17.out.size))
  clear F17 O17 G17 Z17 B17
  clear b18
  go_wp2_with (first
      | (refine wpList_load_fact rfl _ rfl AF rfl f ⟨#[]⟩ F18.out ?_)
      | (refine wpList_load_fact rfl _ rfl AO rfl g ⟨#[]⟩ O18.out ?_)
      | (refine wpList_load_fact rfl _ rfl AG rfl f ⟨#[]⟩ G18.out ?_)
      | (refine wpList_load_fact rfl _ rfl AZ rfl zeroV ⟨#[]⟩ Z18.out ?_))
  refine (R3.out _).mono ?_
  rintro e W19 ⟨rfl, b19⟩
  have F19 := Lib.hid (Hl.row b19 F18.out)
  have O19 := Lib.hid (Hl.row b19 O18.out)
  have G19 := Lib.hid (Hl.row b19 G18.out)
  have Z19 := Lib.hid (Hl.row b19 Z18.out)
  have B19 := Lib.hid (B18.out.trans (Below.mono b19 B18.out.size))
  clear F18 O18 G18 Z18 B18
  clear b19
  go_wp2_with (first
      | (refine wpList_load_fact rfl _ rfl AF rfl f ⟨#[]⟩ F19.out ?_)
      | (refine wpList_load_fact rfl _ rfl AO rfl g ⟨#[]⟩ O19.out ?_)
      | (refine wpList_load_fact rfl _ rfl AG rfl f ⟨#[]⟩ G19.out ?_)
      | (refine wpList_load_fact rfl _ rfl AZ rfl zeroV ⟨#[]⟩ Z19.out ?_))
  refine (R4.out _).mono ?_
  rintro e W20 ⟨rfl, b20⟩
  have F20 := Lib.hid (Hl.row b20 F19.out)
  have O20 := Lib.hid (Hl.row b20 O19.out)
  have G20 := Lib.hid (Hl.row b20 G19.out)
  have Z20 := Lib.hid (Hl.row b20 Z19.out)
  have B20 := Lib.hid (B19.out.trans (Below.mono b20 B19.out.size))
  clear F19 O19 G19 Z19 B19
  clear b20
  go_wp2_with (first
      | (refine wpList_load_fact rfl _ rfl AF rfl f ⟨#[]⟩ F20.out ?_)
      | (refine wpList_load_fact rfl _ rfl AO rfl g ⟨#[]⟩ O20.out ?_)
      | (refine wpList_load_fact rfl _ rfl AG rfl f ⟨#[]⟩ G20.out ?_)
      | (refine wpList_load_fact rfl _ rfl AZ rfl zeroV ⟨#[]⟩ Z20.out ?_))
  refine (P1.out _).mono ?_
  rintro e W21 ⟨rfl, b21⟩
  have F21 := Lib.hid (Hl.row b21 F20.out)
  have O21 := Lib.hid (Hl.row b21 O20.out)
  have G21 := Lib.hid (Hl.row b21 G20.out)
  have Z21 := Lib.hid (Hl.row b21 Z20.out)
  have B21 := Lib.hid (B20.out.trans (Below.mono b21 B20.out.size))
  clear F20 O20 G20 Z20 B20
  clear b21
  go_wp2_with (first
      | (refine wpList_load_fact rfl _ rfl AF rfl f ⟨#[]⟩ F21.out ?_)
      | (refine wpList_load_fact rfl _ rfl AO rfl g ⟨#[]⟩ O21.out ?_)
      | (refine wpList_load_fact rfl _ rfl AG rfl f ⟨#[]⟩ G21.out ?_)
      | (refine wpList_load_fact rfl _ rfl AZ rfl zeroV ⟨#[]⟩ Z21.out ?_))
  refine (R4.out _).mono ?_
  rintro e W22 ⟨rfl, b22⟩
  have F22 := Lib.hid (Hl.row b22 F21.out)
  have O22 := Lib.hid (Hl.row b22 O21.out)
  have G22 := Lib.hid (Hl.row b22 G21.out)
  have Z22 := Lib.hid (Hl.row b22 Z21.out)
  have B22 := Lib.hid (B21.out.trans (Below.mono b22 B21.out.size))
  clear F21 O21 G21 Z21 B21
  clear b22
  go_wp2_with (first
      | (refine wpList_load_fact rfl _ rfl AF rfl f ⟨#[]⟩ F22.out ?_)
      | (refine wpList_load_fact rfl _ rfl AO rfl g ⟨#[]⟩ O22.out ?_)
      | (refine wpList_load_fact rfl _ rfl AG rfl f ⟨#[]⟩ G22.out ?_)
      | (refine wpList_load_fact rfl _ rfl AZ rfl zeroV ⟨#[]⟩ Z22.out ?_))
  refine (R3.out _).mono ?_
  rintro e W23 ⟨rfl, b23⟩
  have F23 := Lib.hid (Hl.row b23 F22.out)
  have O23 := Lib.hid (Hl.row b23 O22.out)
  have G23 := Lib.hid (Hl.row b23 G22.out)
  have Z23 := Lib.hid (Hl.row b23 Z22.out)
  have B23 := Lib.hid (B22.out.trans (Below.mono b23 B22.out.size))
  clear F22 O22 G22 Z22 B22
  clear b23
  go_wp2_with (first
      | (refine wpList_load_fact rfl _ rfl AF rfl f ⟨#[]⟩ F23.out ?_)
      | (refine wpList_load_fact rfl _ rfl AO rfl g ⟨#[]⟩ O23.out ?_)
      | (refine wpList_load_fact rfl _ rfl AG rfl f ⟨#[]⟩ G23.out ?_)
      | (refine wpList_load_fact rfl _ rfl AZ rfl zeroV ⟨#[]⟩ Z23.out ?_))
  refine (P2.out _).mono ?_
  rintro e W24 ⟨rfl, b24⟩
  have F24 := Lib.hid (Hl.row b24 F23.out)
  have O24 := Lib.hid (Hl.row b24 O23.out)
  have G24 := Lib.hid (Hl.row b24 G23.out)
  have Z24 := Lib.hid (Hl.row b24 Z23.out)
  have B24 := Lib.hid (B23.out.trans (Below.mono b24 B23.out.size))
  clear F23 O23 G23 Z23 B23
  clear b24
  go_wp2_with (first
      | (refine wpList_load_fact rfl _ rfl AF rfl f ⟨#[]⟩ F24.out ?_)
      | (refine wpList_load_fact rfl _ rfl AO rfl g ⟨#[]⟩ O24.out ?_)
      | (refine wpList_load_fact rfl _ rfl AG rfl f ⟨#[]⟩ G24.out ?_)
      | (refine wpList_load_fact rfl _ rfl AZ rfl zeroV ⟨#[]⟩ Z24.out ?_))
  refine (P3.out _).mono ?_
  rintro e W25 ⟨rfl, b25⟩
  have F25 := Lib.hid (Hl.row b25 F24.out)
  have O25 := Lib.hid (Hl.row b25 O24.out)
  have G25 := Lib.hid (Hl.row b25 G24.out)
  have Z25 := Lib.hid (Hl.row b25 Z24.out)
  have B25 := Lib.hid (B24.out.trans (Below.mono b25 B24.out.size))
  clear F24 O24 G24 Z24 B24
  clear b25
  go_wp2_with (first
      | (refine wpList_load_fact rfl _ rfl AF rfl f ⟨#[]⟩ F25.out ?_)
      | (refine wpList_load_fact rfl _ rfl AO rfl g ⟨#[]⟩ O25.out ?_)
      | (refine wpList_load_fact rfl _ rfl AG rfl f ⟨#[]⟩ G25.out ?_)
      | (refine wpList_load_fact rfl _ rfl AZ rfl zeroV ⟨#[]⟩ Z25.out ?_))
  go_ret
  exact ⟨rfl, B25.out⟩

end Go.Proofs.YtnbeebndcgoalaaDoor
