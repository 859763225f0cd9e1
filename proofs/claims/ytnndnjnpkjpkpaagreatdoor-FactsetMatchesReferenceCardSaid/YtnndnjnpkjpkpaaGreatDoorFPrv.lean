/- The contracts of package fact's Encode, ID and Prevails. Condition of ID's: the table of constants reads as the program lays it. -/
import Derived.Test.YtnndnjnpkjpkpaaGreatDoorFEnc
import Derived.Test.YtnndnjnpkjpkpaaGreatDoorFNum
import Derived.Test.YtnndnjnpkjpkpaaGreatDoorFSam
import Derived.ChangeKeysEq
namespace Go.Proofs.YtnndnjnpkjpkpaaGreatDoor
open Go.RowKit
/-- What Encode returns. -/
def codeF (v : Nat → Int) (t : ByteArray) : List UInt8 := if okT v t = true then encV v t.data.toList else []
def errF (v : Nat → Int) (t : ByteArray) : Int := if okT v t = true then 0 else 50
/-- What ID returns. -/
def idF (v : Nat → Int) (t : ByteArray) : List UInt8 := if okT v t = true then shaF (encV v t.data.toList) else []
theorem okT_fits {v : Nat → Int} {t : ByteArray} (h : okT v t = true) : FitsF v t.data.toList := okF_fits v t.size t.data.toList rfl (of_decide_eq_true h)
theorem okT_size {v : Nat → Int} {t : ByteArray} (h : okT v t = true) : t.size ≤ 65536 := (okT_fits h).2
theorem codeF_size (v : Nat → Int) (t : ByteArray) : (codeF v t).length ≤ 65700 := by
  unfold codeF
  split
  · rename_i h
    have h1 := (encV_length v t.data.toList).2
    have h2 : t.data.toList.length ≤ 65536 := okT_size h
    omega
  · simp
/-- Whether a fact prevails over another one. -/
def pvB (u : Nat → Int) (s : ByteArray) (v : Nat → Int) (t : ByteArray) : Bool :=
  okT u s && (okT v t && (kyB u v && (decide (v 2 < u 2) || (decide (u 2 = v 2) && Op.bytesLess (encV v t.data.toList) (encV u s.data.toList)))))
theorem Valid_eq (v : Nat → Int) (t : ByteArray) (c : Bool) (h : okT v t = c) (w : World) : Calls Tryz.prog 62 #[.agg (factC v t)] w fun e W' => e = .returned (.bool c) ∧ Below w.heap.size w W' := h ▸ Valid_calls v t w

set_option maxRecDepth 100000 in
theorem Encode_calls (v : Nat → Int) (t : ByteArray) (w : World) : Calls Tryz.prog 47 #[.agg (factC v t)] w fun e W' => e = .returned (.tuple #[.string ⟨(codeF v t).toArray⟩, .int .i64 (errF v t)]) ∧ Below w.heap.size w W' := by
  rcases hc : okT v t with _ | _
  · have HV := Lib.hid (fun W => Valid_eq v t false hc W)
    have e1 : codeF v t = [] := by unfold codeF; rw [hc]; rfl
    have e2 : errF v t = 50 := by unfold errF; rw [hc]; rfl
    rw [e1, e2]
    clear hc e1 e2
    go_enter Tryz.func47, Tryz.ntmps47
    go_upto_region 1 with (fail)
    obtain ⟨W0, hW0, f0, b0⟩ := one_row w (factC v t) 40
    rw [hW0]
    clear hW0
    have F0 := Lib.hid f0
    clear f0
    go_wp2_with (refine wpList_load_row rfl 40 _ rfl w.heap.size rfl _ _ _ _ F0.out Tryz.underlying40 rfl (hiC _ _) ?_)
    refine (HV.out _).mono ?_
    rintro e W1 ⟨rfl, b1⟩
    go_wp2_with fail
    go_ret2
    exact ⟨rfl, b0.trans (b1.mono b0.size)⟩
  · have HV := Lib.hid (fun W => Valid_eq v t true hc W)
    have HE := Lib.hid (fun W => encoding_calls v t W (okT_fits hc))
    have e1 : codeF v t = encV v t.data.toList := by unfold codeF; rw [hc]; rfl
    have e2 : errF v t = 0 := by unfold errF; rw [hc]; rfl
    rw [e1, e2]
    clear hc e1 e2
    generalize encV v t.data.toList = E at *
    go_enter Tryz.func47, Tryz.ntmps47
    go_upto_region 1 with (fail)
    obtain ⟨W0, hW0, f0, b0⟩ := one_row w (factC v t) 40
    rw [hW0]
    clear hW0
    have F0 := Lib.hid f0
    clear f0
    go_wp2_with (refine wpList_load_row rfl 40 _ rfl w.heap.size rfl _ _ _ _ F0.out Tryz.underlying40 rfl (hiC _ _) ?_)
    refine (HV.out _).mono ?_
    rintro e W1 ⟨rfl, b1⟩
    have F1 := Lib.hid (Hl.row b1 F0.out)
    go_wp2_with (refine wpList_load_row rfl 40 _ rfl w.heap.size rfl _ _ _ _ F1.out Tryz.underlying40 rfl (hiC _ _) ?_)
    refine (HE.out _).mono ?_
    rintro e W2 ⟨rfl, b2⟩
    go_wp2_with fail
    go_ret2
    exact ⟨rfl, (b0.trans (b1.mono b0.size)).trans (b2.mono (by have := b0.size; have := b1.size; omega))⟩

set_option maxRecDepth 100000 in
theorem ID_calls (v : Nat → Int) (t : ByteArray) (w : World) (hK : Konst w) : Calls Tryz.prog 30 #[.agg (factC v t)] w fun e W' => e = .returned (.tuple #[.string ⟨(idF v t).toArray⟩, .int .i64 (errF v t)]) ∧ Below w.heap.size w W' := by
  have HK := Lib.hid hK
  clear hK
  rcases hc : okT v t with _ | _
  · have e1 : idF v t = [] := by unfold idF; rw [hc]; rfl
    have e2 : errF v t = 50 := by unfold errF; rw [hc]; rfl
    have HC : Hid (∀ W, Calls Tryz.prog 47 #[.agg (factC v t)] W fun e W' => e = .returned (.tuple #[.string ⟨(codeF v t).toArray⟩, .int .i64 50]) ∧ Below W.heap.size W W') := Lib.hid (fun W => by have h := Encode_calls v t W; rw [e2] at h; exact h)
    rw [e1, e2]
    clear hc e1 e2
    go_enter Tryz.func30, Tryz.ntmps30
    go_upto_region 1 with (fail)
    obtain ⟨W0, hW0, f0, b0⟩ := one_row w (factC v t) 40
    rw [hW0]
    clear hW0
    have F0 := Lib.hid f0
    clear f0
    go_wp2_with (refine wpList_load_row rfl 40 _ rfl w.heap.size rfl _ _ _ _ F0.out Tryz.underlying40 rfl (hiC _ _) ?_)
    refine (HC.out _).mono ?_
    rintro e W1 ⟨rfl, b1⟩
    go_wp2_with fail
    go_ret2
    exact ⟨rfl, b0.trans (b1.mono b0.size)⟩
  · have e1 : idF v t = shaF (codeF v t) := by unfold idF codeF; rw [hc]; rfl
    have e2 : errF v t = 0 := by unfold errF; rw [hc]; rfl
    have hsz := codeF_size v t
    have HC : Hid (∀ W, Calls Tryz.prog 47 #[.agg (factC v t)] W fun e W' => e = .returned (.tuple #[.string ⟨(codeF v t).toArray⟩, .int .i64 0]) ∧ Below W.heap.size W W') := Lib.hid (fun W => by have h := Encode_calls v t W; rw [e2] at h; exact h)
    rw [e1, e2]
    clear hc e1 e2
    have HS : Hid (∀ W, Konst W → Calls Tryz.prog 43 #[.string ⟨(codeF v t).toArray⟩] W fun e W' => e = .returned (.string ⟨(shaF (codeF v t)).toArray⟩) ∧ Below W.heap.size W W') := Lib.hid (fun W hK => Sum_calls ⟨(codeF v t).toArray⟩ W hK (by show (codeF v t).length ≤ _; omega))
    generalize codeF v t = E at *
    generalize shaF E = D at *
    go_enter Tryz.func30, Tryz.ntmps30
    go_upto_region 1 with (fail)
    obtain ⟨W0, hW0, f0, b0⟩ := one_row w (factC v t) 40
    rw [hW0]
    clear hW0
    have F0 := Lib.hid f0
    clear f0
    go_wp2_with (refine wpList_load_row rfl 40 _ rfl w.heap.size rfl _ _ _ _ F0.out Tryz.underlying40 rfl (hiC _ _) ?_)
    refine (HC.out _).mono ?_
    rintro e W1 ⟨rfl, b1⟩
    have B1 := Lib.hid (b0.trans (b1.mono b0.size))
    have HK1 := Lib.hid (HK.out.keep B1.out)
    clear b0 b1
    go_wp2_with fail
    refine (HS.out _ HK1.out).mono ?_
    rintro e W2 ⟨rfl, b2⟩
    go_wp2_with fail
    go_ret2
    exact ⟨rfl, B1.out.trans (b2.mono B1.out.size)⟩

theorem part3x (a b c : Int) (i : Nat) (h : i < 3) (w : World) : (part 3 #[.int .i64 a, .int .i64 b, .int .i64 c] i).run Tryz.prog w = .ok (.int .i64 (if i = 0 then a else if i = 1 then b else c)) w := by
  have hc : i = 0 ∨ i = 1 ∨ i = 2 := by omega
  rcases hc with rfl | rfl | rfl <;> exact part_int _ _ _ w rfl
theorem kyB_dec (u v : Nat → Int) : decide (u 0 = v 0 ∧ (kyF u).1 = (kyF v).1 ∧ (kyF u).2 = (kyF v).2) = kyB u v := by
  unfold kyB
  apply decide_eq_decide.2
  rw [Prod.ext_iff]
end Go.Proofs.YtnndnjnpkjpkpaaGreatDoor
