/- The walk of FactDecodeMatchesReference. Conditions: the table of constants reads as the program lays it; the variable errForm holds an error of its own. -/
import Derived.Test.YtnbeebndcgoalaaDoorRfD2
namespace Go.Proofs.YtnbeebndcgoalaaDoor
open Go.RowKit
/-- A string of at most 2200 bytes. -/
def cutR (s : ByteArray) : ByteArray := s.extract 0 (min s.size 2200)
theorem cutR_size (s : ByteArray) : (cutR s).size ≤ 2200 := by
  show (cutR s).data.toList.length ≤ 2200
  unfold cutR
  rw [Lib.extract_data, List.length_take]; omega

set_option maxRecDepth 100000 in
set_option maxHeartbeats 4000000 in
theorem dm_walk (s : ByteArray) (w : World) (a : Addr) (hK : Konst w) (hE : ErrK a w) (hs : s.size ≤ 9223372036854775807) :
    Calls Tryd.prog 5 #[.string s] w fun e W' => e = .returned (.bool true) ∧ Below w.heap.size w W' := by
  have hgE : 0 < w.heap.size := World.block_lt_of_cell? w _ hE
  have HK := Lib.hid hK
  have HE := Lib.hid hE
  clear hK hE
  have HS := Lib.hid (fun W (h : Konst W) (h' : ErrK a W) => sane_calls a W h h')
  have HC := Lib.hid (show cutR s = s.extract 0 (min s.size 2200) from rfl)
  have hcs : (cutR s).size ≤ 2200 := cutR_size s
  have HD := Lib.hid (fun W (h : ErrK a W) => Decode_calls (cutR s) a W h (by omega))
  have HR : Hid (∀ W, Calls Tryd.prog 26 #[.string (cutR s)] W fun e W' => e = .returned (.tuple #[.agg (factC (dcV (cutR s)) (dcT (cutR s))), .int .i64 (dcE (cutR s))]) ∧ Below W.heap.size W W') := Lib.hid (fun W => refDecode_calls (cutR s) W (by omega))
  generalize dcV (cutR s) = v at *
  generalize dcT (cutR s) = t at *
  generalize dcE (cutR s) = er at *
  generalize cutR s = c at *
  have q1 := fun W => runEq v v t t W
  rw [eqB_me] at q1
  go_enter Tryd.func5, Tryd.ntmps5
  go_wp2_with fail
  refine (HS.out _ HK.out HE.out).mono ?_
  rintro e W1 ⟨rfl, b1⟩
  have B1 := Lib.hid b1
  clear b1
  go_upto_region 3 with (fail)
  have hx : s.extract 0 (min (s.size : Int) 2200).toNat = c := by rw [HC.out]; congr 1; omega
  rw [hx]
  clear hx
  go_wp2_with fail
  refine (HD.out _ (HE.out.keep B1.out hgE)).mono ?_
  rintro e W2 ⟨rfl, b2⟩
  have B2 := Lib.hid (B1.out.trans (Below.mono b2 B1.out.size))
  clear B1
  clear b2
  have honeF := factC_one v t
  go_upto_region 4 with (first
      | (refine wpList_store_row rfl 23 _ _ rfl W2.heap.size (factC v t) rfl rfl 23 _ (heap_new W2 _) (hiC _ _) rfl honeF ?_))
  have hBF : w.heap.size ≤ W2.heap.size := B2.out.size
  obtain ⟨W3, hW3, F3, B3, hs3⟩ : ∃ W3, (W2.alloc (.cells (factC zeroV ⟨#[]⟩) 23)).setRow W2.heap.size (factC v t) = W3 ∧ Hid (W3.heap[W2.heap.size]? = some (.cells (factC v t) 23 (0, 0))) ∧ Hid (Below w.heap.size w W3) ∧ Hid (W2.heap.size < W3.heap.size) :=
    ⟨_, rfl, Lib.hid (setRow_heap _ _ _ _ _ _ (heap_new W2 _)), Lib.hid (below_setRow' (B2.out.alloc B2.out.size _) _ _ B2.out.size), Lib.hid (by simp)⟩
  rw [hW3]
  clear hW3  B2
  have hleF := hBF
  clear hBF
  generalize W2.heap.size = AF at *
  go_wp2_with (first
      | (refine wpList_load_fact rfl _ rfl AF rfl v t F3.out ?_))
  refine (HR.out _).mono ?_
  rintro e W4 ⟨rfl, b4⟩
  have F4 := Lib.hid (Hl.row b4 F3.out)
  have B4 := Lib.hid (B3.out.trans (Below.mono b4 B3.out.size))
  clear F3 B3
  clear b4
  have honeG := factC_one v t
  go_upto_region 5 with (first
      | (refine wpList_store_row rfl 23 _ _ rfl W4.heap.size (factC v t) rfl rfl 23 _ (heap_new W4 _) (hiC _ _) rfl honeG ?_)
      | (refine wpList_load_fact rfl _ rfl AF rfl v t F4.out ?_))
  have hltFG : AF < W4.heap.size := (Array.getElem?_eq_some_iff.1 F4.out).1
  have hBG : w.heap.size ≤ W4.heap.size := B4.out.size
  obtain ⟨W5, hW5, F5, G5, B5, hs5⟩ : ∃ W5, (W4.alloc (.cells (factC zeroV ⟨#[]⟩) 23)).setRow W4.heap.size (factC v t) = W5 ∧ Hid (W5.heap[AF]? = some (.cells (factC v t) 23 (0, 0))) ∧ Hid (W5.heap[W4.heap.size]? = some (.cells (factC v t) 23 (0, 0))) ∧ Hid (Below w.heap.size w W5) ∧ Hid (W4.heap.size < W5.heap.size) :=
    ⟨_, rfl, Lib.hid ((setRow_other _ _ _ _ (Nat.ne_of_lt (Array.getElem?_eq_some_iff.1 F4.out).1)).trans (row_aft _ _ _ _ F4.out)), Lib.hid (setRow_heap _ _ _ _ _ _ (heap_new W4 _)), Lib.hid (below_setRow' (B4.out.alloc B4.out.size _) _ _ B4.out.size), Lib.hid (by simp)⟩
  rw [hW5]
  clear hW5 F4 B4
  have hleG := hBG
  clear hBG
  generalize W4.heap.size = AG at *
  go_wp2_with (first
      | (refine wpList_load_fact rfl _ rfl AF rfl v t F5.out ?_)
      | (refine wpList_load_fact rfl _ rfl AG rfl v t G5.out ?_))
  go_ret
  exact ⟨rfl, B5.out⟩

end Go.Proofs.YtnbeebndcgoalaaDoor
