/- The contract of package factset's Add. Condition: the table of constants reads as the program lays it. -/
import Derived.Test.YtmhphmolbjjopaaDoorSn
namespace Go.Proofs.YtmhphmolbjjopaaDoor
open Go.RowKit Go.Maps

theorem grown_but {a c : World} (h : a.grownBy c none) (row : Option Nat) : a.grownBy c row := ⟨h.os, h.tape, h.output, h.size, fun i hi _ => h.block i hi (by simp)⟩
/-- Whether a fact is new, and the error. -/
def plusB (es : List Ent) (f : Fa) : Bool := okA f && !hasE es (keyF f) && decide (es.length < 4000)
def plusN (es : List Ent) (f : Fa) : Int := if okA f = true then if hasE es (keyF f) = true then 0 else if es.length < 4000 then 0 else 60 else 60

set_option maxRecDepth 100000 in
theorem Add_nil (f : Fa) (w : World) : Calls Tryd.prog 14 #[.pointer none, .agg (factC f.1 f.2)] w fun e W' => e = .returned (.tuple #[.bool false, .int .i64 1]) ∧ Below w.heap.size w W' := by
  obtain ⟨v, t⟩ := f
  go_enter Tryd.func14, Tryd.ntmps14
  go_wp2_with fail
  go_ret2
  exact ⟨rfl, (Below.refl _ _).alloc (Nat.le_refl _) _⟩

set_option maxRecDepth 100000 in
theorem Add_bad (p b : Nat) (es : List Ent) (v : Nat → Int) (t : ByteArray) (w : World) (hK : Konst w) (hS : SetAt w p b es) (ho : okT v t = false) :
    Calls Tryd.prog 14 #[.pointer (some ⟨p, 0, none⟩), .agg (factC v t)] w fun e W' => e = .returned (.tuple #[.bool false, .int .i64 60]) ∧ SetAt W' p b es ∧ w.grownBy W' (some b) := by
  have HS := Lib.hid (fun (W : World) (h : Below w.heap.size w W) => (⟨hS.below h, grown_but (grown_of_below h) (some b)⟩ : SetAt W p b es ∧ w.grownBy W (some b)))
  have e1 : idF v t = [] := by unfold idF; rw [ho]; rfl
  have e2 : errF v t = 50 := by unfold errF; rw [ho]; rfl
  have HI := Lib.hid (fun (W : World) (h : Below w.heap.size w W) => ID_calls v t W (hK.keep h))
  rw [e1, e2] at HI
  clear hS e1 e2 ho hK
  go_enter Tryd.func14, Tryd.ntmps14
  go_upto_region 1 with (fail)
  obtain ⟨W0, hW0, f0, b0⟩ := one_row w (factC v t) 33
  rw [hW0]
  clear hW0
  have F0 := Lib.hid f0
  have B0 := Lib.hid b0
  clear f0 b0
  go_wp2_with (refine wpList_load_row rfl 33 _ rfl w.heap.size rfl _ _ _ _ F0.out Tryd.underlying33 rfl (hiC _ _) ?_)
  refine (HI.out W0 B0.out).mono ?_
  rintro e W1 ⟨rfl, b1⟩
  go_wp2_with fail
  go_ret2
  exact ⟨rfl, HS.out W1 (B0.out.trans (Below.mono b1 B0.out.size))⟩

theorem key_bytes (f : Fa) : (⟨(keyF f).toArray⟩ : ByteArray).data.toList = keyF f := by simp
set_option maxRecDepth 100000 in
theorem Add_has (p b : Nat) (es : List Ent) (v : Nat → Int) (t : ByteArray) (w : World) (hK : Konst w) (hS : SetAt w p b es) (hF : Facts es) (ho : okT v t = true) (hh : hasE es (keyF (v, t)) = true) :
    Calls Tryd.prog 14 #[.pointer (some ⟨p, 0, none⟩), .agg (factC v t)] w fun e W' => e = .returned (.tuple #[.bool false, .int .i64 0]) ∧ SetAt W' p b es ∧ w.grownBy W' (some b) := by
  have HS := Lib.hid (fun (W : World) (h : Below w.heap.size w W) => (⟨hS.below h, grown_but (grown_of_below h) (some b)⟩ : SetAt W p b es ∧ w.grownBy W (some b)))
  have e1 : idF v t = keyF (v, t) := by unfold idF; rw [ho]; rfl
  have e2 : errF v t = 0 := by unfold errF; rw [ho]; rfl
  have HI := Lib.hid (fun (W : World) (h : Below w.heap.size w W) => ID_calls v t W (hK.keep h))
  rw [e1, e2] at HI
  have hlen : (⟨(keyF (v, t)).toArray⟩ : ByteArray).size ≤ maxLen := by show (keyF (v, t)).length ≤ _; rw [keyF_length]; decide
  have HH := Lib.hid (fun (W : World) (h : Below w.heap.size w W) => Has_calls p b es ⟨(keyF (v, t)).toArray⟩ W (hS.below h) hF hlen)
  rw [key_bytes, hh] at HH
  clear hS e1 e2 ho hK hF hh hlen
  generalize (⟨(keyF (v, t)).toArray⟩ : ByteArray) = k at *
  go_enter Tryd.func14, Tryd.ntmps14
  go_upto_region 1 with (fail)
  obtain ⟨W0, hW0, f0, b0⟩ := one_row w (factC v t) 33
  rw [hW0]
  clear hW0
  have F0 := Lib.hid f0
  have B0 := Lib.hid b0
  clear f0 b0
  go_wp2_with (refine wpList_load_row rfl 33 _ rfl w.heap.size rfl _ _ _ _ F0.out Tryd.underlying33 rfl (hiC _ _) ?_)
  refine (HI.out W0 B0.out).mono ?_
  rintro e W1 ⟨rfl, b1⟩
  have B1 := Lib.hid (B0.out.trans (Below.mono b1 B0.out.size))
  clear b1
  go_wp2_with fail
  refine (HH.out W1 B1.out).mono ?_
  rintro e W2 ⟨rfl, b2⟩
  have B2 := Lib.hid (B1.out.trans (Below.mono b2 B1.out.size))
  clear b2
  go_wp2_with fail
  go_ret2
  exact ⟨rfl, HS.out W2 B2.out⟩
set_option maxRecDepth 100000 in
theorem Add_full (p b : Nat) (es : List Ent) (v : Nat → Int) (t : ByteArray) (w : World) (hK : Konst w) (hS : SetAt w p b es) (hF : Facts es) (ho : okT v t = true) (hh : hasE es (keyF (v, t)) = false) (hl : 4000 ≤ es.length) (hl2 : es.length ≤ 1000000) :
    Calls Tryd.prog 14 #[.pointer (some ⟨p, 0, none⟩), .agg (factC v t)] w fun e W' => e = .returned (.tuple #[.bool false, .int .i64 60]) ∧ SetAt W' p b es ∧ w.grownBy W' (some b) := by
  have HS := Lib.hid (fun (W : World) (h : Below w.heap.size w W) => (⟨hS.below h, grown_but (grown_of_below h) (some b)⟩ : SetAt W p b es ∧ w.grownBy W (some b)))
  have e1 : idF v t = keyF (v, t) := by unfold idF; rw [ho]; rfl
  have e2 : errF v t = 0 := by unfold errF; rw [ho]; rfl
  have HI := Lib.hid (fun (W : World) (h : Below w.heap.size w W) => ID_calls v t W (hK.keep h))
  rw [e1, e2] at HI
  have hlen : (⟨(keyF (v, t)).toArray⟩ : ByteArray).size ≤ maxLen := by show (keyF (v, t)).length ≤ _; rw [keyF_length]; decide
  have HH := Lib.hid (fun (W : World) (h : Below w.heap.size w W) => Has_calls p b es ⟨(keyF (v, t)).toArray⟩ W (hS.below h) hF hlen)
  rw [key_bytes, hh] at HH
  have HL := Lib.hid (fun (W : World) (h : Below w.heap.size w W) => Len_calls p b es W (hS.below h))
  clear hS e1 e2 ho hK hF hh hlen
  generalize (⟨(keyF (v, t)).toArray⟩ : ByteArray) = k at *
  generalize hn : es.length = n at *
  have k1 : (4000 : Int) ≤ (n : Int) := by omega
  clear hn hl
  go_enter Tryd.func14, Tryd.ntmps14
  go_upto_region 1 with (fail)
  obtain ⟨W0, hW0, f0, b0⟩ := one_row w (factC v t) 33
  rw [hW0]
  clear hW0
  have F0 := Lib.hid f0
  have B0 := Lib.hid b0
  clear f0 b0
  go_wp2_with (refine wpList_load_row rfl 33 _ rfl w.heap.size rfl _ _ _ _ F0.out Tryd.underlying33 rfl (hiC _ _) ?_)
  refine (HI.out W0 B0.out).mono ?_
  rintro e W1 ⟨rfl, b1⟩
  have B1 := Lib.hid (B0.out.trans (Below.mono b1 B0.out.size))
  clear b1
  go_wp2_with fail
  refine (HH.out W1 B1.out).mono ?_
  rintro e W2 ⟨rfl, b2⟩
  have B2 := Lib.hid (B1.out.trans (Below.mono b2 B1.out.size))
  clear b2
  go_wp2_with fail
  refine (HL.out W2 B2.out).mono ?_
  rintro e W3 ⟨rfl, rfl⟩
  go_wp2_with fail
  go_ret2
  exact ⟨rfl, HS.out _ B2.out⟩
set_option maxRecDepth 100000 in
theorem Add_new (p b : Nat) (es : List Ent) (v : Nat → Int) (t : ByteArray) (w : World) (hK : Konst w) (hS : SetAt w p b es) (ha : Asc es) (hF : Facts es) (ho : okT v t = true) (hh : hasE es (keyF (v, t)) = false) (hl : es.length < 4000) :
    Calls Tryd.prog 14 #[.pointer (some ⟨p, 0, none⟩), .agg (factC v t)] w fun e W' => e = .returned (.tuple #[.bool true, .int .i64 0]) ∧ SetAt W' p b (putE (keyF (v, t)) (valF (v, t)) es) ∧ w.grownBy W' (some b) := by
  have e1 : idF v t = keyF (v, t) := by unfold idF; rw [ho]; rfl
  have e2 : errF v t = 0 := by unfold errF; rw [ho]; rfl
  have HI := Lib.hid (fun (W : World) (h : Below w.heap.size w W) => ID_calls v t W (hK.keep h))
  rw [e1, e2] at HI
  have hlen : (⟨(keyF (v, t)).toArray⟩ : ByteArray).size = 32 := keyF_length (v, t)
  have hlen1 : (⟨(keyF (v, t)).toArray⟩ : ByteArray).size ≤ maxLen := by rw [hlen]; decide
  have HH := Lib.hid (fun (W : World) (h : Below w.heap.size w W) => Has_calls p b es ⟨(keyF (v, t)).toArray⟩ W (hS.below h) hF hlen1)
  rw [key_bytes, hh] at HH
  have HL := Lib.hid (fun (W : World) (h : Below w.heap.size w W) => Len_calls p b es W (hS.below h))
  have htx : t.size ≤ 65536 := okT_size ho
  have HP := Lib.hid (fun (W : World) (h : Below w.heap.size w W) => put_calls p b es ⟨(keyF (v, t)).toArray⟩ v t W (hS.below h) ha (by unfold maxLen; omega) (by rw [hlen]; decide) hlen1 (by omega))
  rw [key_bytes] at HP
  have e3 : valF (v, t) = .agg (factC v t) := rfl
  rw [e3]
  clear hS e1 e2 e3 ho hK hF ha hh hlen hlen1 htx
  generalize (⟨(keyF (v, t)).toArray⟩ : ByteArray) = k at *
  generalize putE (keyF (v, t)) (.agg (factC v t)) es = es' at *
  have k1 : ((es.length : Nat) : Int) < 4000 := by omega
  generalize es.length = n at *
  clear hl
  go_enter Tryd.func14, Tryd.ntmps14
  go_upto_region 1 with (fail)
  obtain ⟨W0, hW0, f0, b0⟩ := one_row w (factC v t) 33
  rw [hW0]
  clear hW0
  have F0 := Lib.hid f0
  have B0 := Lib.hid b0
  clear f0 b0
  go_wp2_with (refine wpList_load_row rfl 33 _ rfl w.heap.size rfl _ _ _ _ F0.out Tryd.underlying33 rfl (hiC _ _) ?_)
  refine (HI.out W0 B0.out).mono ?_
  rintro e W1 ⟨rfl, b1⟩
  have F1 := Lib.hid (Hl.row b1 F0.out)
  have B1 := Lib.hid (B0.out.trans (Below.mono b1 B0.out.size))
  clear b1 F0
  go_wp2_with fail
  refine (HH.out W1 B1.out).mono ?_
  rintro e W2 ⟨rfl, b2⟩
  have F2 := Lib.hid (Hl.row b2 F1.out)
  have B2 := Lib.hid (B1.out.trans (Below.mono b2 B1.out.size))
  clear b2 F1
  go_wp2_with fail
  refine (HL.out W2 B2.out).mono ?_
  rintro e W3 ⟨rfl, rfl⟩
  go_wp2_with (refine wpList_load_row rfl 33 _ rfl w.heap.size rfl _ _ _ _ F2.out Tryd.underlying33 rfl (hiC _ _) ?_)
  refine (HP.out _ B2.out).mono ?_
  rintro e W4 ⟨rfl, hS4, hg⟩
  go_wp2_with fail
  go_ret2
  exact ⟨rfl, hS4, grown_after B2.out hg⟩
theorem Add_calls (p b : Nat) (es : List Ent) (f : Fa) (w : World) (hK : Konst w) (hS : SetAt w p b es) (hG : Good es) :
    Calls Tryd.prog 14 #[.pointer (some ⟨p, 0, none⟩), .agg (factC f.1 f.2)] w fun e W' => e = .returned (.tuple #[.bool (plusB es f), .int .i64 (plusN es f)]) ∧ SetAt W' p b (plusE es f) ∧ w.grownBy W' (some b) := by
  obtain ⟨v, t⟩ := f
  unfold plusB plusN plusE
  cases ho : okA (v, t) with
  | false => simpa using Add_bad p b es v t w hK hS ho
  | true =>
    cases hh : hasE es (keyF (v, t)) with
    | true => simpa using Add_has p b es v t w hK hS hG.2.1 ho hh
    | false =>
      by_cases hl : es.length < 4000
      · simpa [hl] using Add_new p b es v t w hK hS hG.1 hG.2.1 ho hh hl
      · have := hG.2.2
        simpa [hl] using Add_full p b es v t w hK hS hG.2.1 ho hh (by omega) (by omega)
end Go.Proofs.YtmhphmolbjjopaaDoor
