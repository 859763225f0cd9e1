/- The contract of package fact's encoding. Condition: what is encoded fits. -/
import Derived.Test.YtngkfopdlkddnaaK07
import Derived.Test.YtngkfopdlkddnaaK10
import Derived.Lib.AppendStr
namespace Go.Proofs.Ytngkfopdlkddnaa
open Go.RowKit
theorem grown_row {w w' : World} {row : Option Nat} (hg : w.grownBy w' row) {b : Nat} {x : Obj} (h : w.heap[b]? = some x) (hr : row ≠ some b) : w'.heap[b]? = some x :=
  (hg.block b (Array.getElem?_eq_some_iff.1 h).1 (fun e => hr e.symm)).trans h
theorem grown_of_below {w w' : World} (h : Below w.heap.size w w') : w.grownBy w' none := ⟨h.os, h.tape, h.output, h.size, fun k hk _ => h.block k hk⟩
set_option maxRecDepth 100000 in
set_option maxHeartbeats 4000000 in
theorem encoding_calls (v : Nat → Int) (t : ByteArray) (w : World) (hF : FitsF v t.data.toList) : Calls Try.prog 35 #[.agg (factC v t)] w fun e W' => e = .returned (.string ⟨(encV v t.data.toList).toArray⟩) ∧ Below w.heap.size w W' := by
  obtain ⟨i0, hi, hz0, hz1, hz2⟩ := info_parts (show (Try.prog.info? 5).map (fun i => (i.zero, i.size, i.bytes)) = some (some (.int .u8 0), 1, 1) from by kernel_rfl)
  have HF := Lib.hid hF
  have ht : t.size ≤ 65536 := hF.2
  clear hF
  go_enter Try.func35, Try.ntmps35
  go_upto_region 1 with (fail)
  obtain ⟨W0, hW0, f0, b0⟩ := one_row w (factC v t) 29
  rw [hW0]
  clear hW0
  have F0 := Lib.hid f0
  clear f0
  go_wp2_with fail
  refine (numbers_calls w.heap.size 0 _).mono ?_
  rintro e W1 ⟨rfl, b1⟩
  have F1 := Lib.hid (Hl.row b1 F0.out)
  have B1 := Lib.hid (b0.trans (b1.mono b0.size))
  clear b1 b0 F0
  go_wp2_with fail
  go_loopw [3, 11] (fun cv kv wr => ∃ k : Nat, k ≤ 17 ∧ kv = .int .i64 k ∧ Hid (wr.ownsRow (w.heap.size + 1) 5 1 cv (encN v k).length (cells8 (encN v k))) ∧ Hid (wr.heap[w.heap.size]? = some (.cells (factC v t) 29 (0, 0))) ∧ Hid (Below w.heap.size w wr)) (fun _ kv _ => 17 - (intOf kv).toNat)
  case atStart => exact ⟨0, by omega, rfl, Lib.hid (World.ownsRow_nil _ _ _ _), F1, B1⟩
  case round =>
    obtain ⟨k, hk, rfl, HO, F2, B2⟩ := hrel
    clear F1 B1
    by_cases hlt : k < 17
    · have hix : ∀ W, (Instr.index 97 (.agg (ptrL w.heap.size 0).toArray) (.int .i64 (k : Int))).run Try.prog W = .ok (.pointer (some ⟨w.heap.size, k, none⟩)) W := fun W => by
        have := ptrL_at w.heap.size 0 k hlt W
        rwa [Nat.zero_add] at this
      have ck : wr.cell? ⟨w.heap.size, k, none⟩ = some (.int .i64 (v k)) := by rw [cell_of_row _ _ _ _ _ _ F2.out]; exact factC_get v t k hlt
      have hfk := HF.out.1 k hlt
      obtain ⟨hf1, hf2⟩ := hfk
      have HN : Hid (encN v (k + 1) = encN v k ++ putI (v k)) := Lib.hid rfl
      have hl1 := (encN_length v k).2
      have hl2 := (putI_length (v k)).2
      generalize v k = x at *
      generalize hE : encN v k = E at *
      have HE := Lib.hid hE
      clear hE
      go_wp2_with fail
      refine (putInt_yes x _ hf1 hf2).mono ?_
      rintro e W3 ⟨rfl, b3⟩
      have hsz : (⟨(putI x).toArray⟩ : ByteArray).size = (putI x).length := rfl
      have HO3 := Lib.hid (World.ownsRow.kept HO.out (grown_of_below b3) (Classical.em _))
      have F3 := Lib.hid (Hl.row b3 F2.out)
      have B3 := Lib.hid (B2.out.trans (b3.mono B2.out.size))
      have hlt3 : w.heap.size < W3.heap.size := (Array.getElem?_eq_some_iff.1 F3.out).1
      clear b3 F2 B2 HO hix ck
      generalize hP : putI x = X at *
      have HP := Lib.hid hP
      clear hP
      go_wp2_with (at_builtin; refine Lib.wpList_append_own_string _ rfl _ _ 101 9 rfl (w.heap.size + 1) 5 i0 Try.underlying101 Try.underlying9 hi hz0 hz1 hz2 _ _ _ rfl HO3.out ⟨X.toArray⟩ rfl (by unfold maxLen; omega) (by omega) (by omega) ?_; intro cv' W4 hown hgrow _)
      have HO4 : Hid (W4.ownsRow (w.heap.size + 1) 5 1 cv' (encN v (k + 1)).length (cells8 (encN v (k + 1)))) := Lib.hid (by
        rw [HN.out, cells8_append, List.length_append]
        exact hown)
      have F4 := Lib.hid (grown_row hgrow F3.out (fun e => by have := (HO3.out.lt _ e).1; omega))
      have B4 := Lib.hid (B3.out.grown hgrow (by omega) (fun q e => by have := (HO3.out.lt q e).1; omega))
      clear hown hgrow F3 B3 HO3
      go_wp2_with fail
      go_roundw
      case rel => exact ⟨k + 1, by omega, by go_num, HO4, F4, B4⟩
      case measure => simp [intOf]; omega
    · obtain rfl : k = 17 := by omega
      rw [show ((17 : Nat) : Int) = 17 from rfl]
      have c17 : wr.cell? ⟨w.heap.size, 17, none⟩ = some (.string t) := by rw [cell_of_row _ _ _ _ _ _ F2.out]; rfl
      have HN : Hid (encV v t.data.toList = encN v 17 ++ putS t.data.toList) := Lib.hid rfl
      have hl1 := (encN_length v 17)
      have hl2 : (putS t.data.toList).length ≤ 65545 := by
        unfold putS
        rw [List.length_append]
        have h1 := (putI_length (t.data.toList.length : Int)).2
        have h2 : t.data.toList.length ≤ 65536 := ht
        omega
      generalize hE : encN v 17 = E at *
      have HE := Lib.hid hE
      clear hE
      go_wp2_with fail
      refine (putString_yes t _ ht).mono ?_
      rintro e W3 ⟨rfl, b3⟩
      have hsz : (⟨(putS t.data.toList).toArray⟩ : ByteArray).size = (putS t.data.toList).length := rfl
      have HO3 := Lib.hid (World.ownsRow.kept HO.out (grown_of_below b3) (Classical.em _))
      have B3 := Lib.hid (B2.out.trans (b3.mono B2.out.size))
      have F3 := Lib.hid (Hl.row b3 F2.out)
      have hlt3 : w.heap.size < W3.heap.size := (Array.getElem?_eq_some_iff.1 F3.out).1
      clear b3 B2 HO F2 F3 c17
      generalize putS t.data.toList = X at *
      go_wp2_with (at_builtin; refine Lib.wpList_append_own_string _ rfl _ _ 101 9 rfl (w.heap.size + 1) 5 i0 Try.underlying101 Try.underlying9 hi hz0 hz1 hz2 _ _ _ rfl HO3.out ⟨X.toArray⟩ rfl (by unfold maxLen; omega) (by omega) (by omega) ?_)
      intro cv' W4 hown hgrow _
      have HC : Hid (cells8 E ++ Lib.strCells ⟨X.toArray⟩ = cells8 (E ++ X)) := Lib.hid (by rw [cells8_append]; rfl)
      rw [HC.out] at hown
      have B4 := Lib.hid (B3.out.grown hgrow (by omega) (fun q e => by have := (HO3.out.lt q e).1; omega))
      obtain ⟨z, hz⟩ : ∃ z, E.length + X.length = z + 1 := ⟨E.length + X.length - 1, by omega⟩
      rw [hz] at hown
      obtain ⟨g, cap, rfl⟩ := ownsRow_succ hown
      have hcv := row_string (w := W4) (l := E ++ X) (n := z + 1) (cap := cap) (by rw [← hz, List.length_append]) hown
      clear hown hgrow HO3
      go_wp2_with fail
      go_ret
      exact ⟨by rw [HN.out]; rfl, B4.out⟩

end Go.Proofs.Ytngkfopdlkddnaa
