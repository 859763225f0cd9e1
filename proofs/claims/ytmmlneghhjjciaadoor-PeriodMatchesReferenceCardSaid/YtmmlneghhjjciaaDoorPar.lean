/- The contract of package period's Parse: it answers as the reference implementation. -/
import Derived.Test.YtmmlneghhjjciaaDoorTxt
import Derived.BigQuiet
import Derived.Deep.RegionHeld3
import Derived.Lib.BufferWrite
namespace Go.Proofs.YtmmlneghhjjciaaDoor
open Go.RowKit

theorem below_drewN {B : Nat} {a w : World} (h : Below B a w) (n : Nat) : Below B a (w.drewN n) := ⟨h.os, h.tape, h.output, h.size, h.block⟩
theorem number_quiet (s : ByteArray) (w : World) (n : Nat) (hs : s.size ≤ 4) :
    Calls Tryd.prog 23 #[.string s] (w.drewN n) fun e w'' => e = .returned (.int .i64 (numF s.data.toList)) ∧ ∃ m, w'' = w.drewN m :=
  Calls.quiet_of_same ((number_calls s hs _).mono fun _ _ ⟨h1, h2⟩ => ⟨h1, h2.symm⟩)
theorem par_num : ∀ q, q < 1200 → numF ((fmtN q).take 4) = 2000 + (q : Int) / 12 ∧ numF ((fmtN q).drop 5) = (q : Int) % 12 + 1 := by decide +kernel
theorem cut4 (s : ByteArray) : (s.extract 0 4).data.toList = s.data.toList.take 4 := by rw [Lib.extract_data]; rfl
theorem cut5 (s : ByteArray) (h : s.size = 7) : (s.extract 5 7).data.toList = s.data.toList.drop 5 := by
  rw [Lib.extract_data]
  have : s.data.toList.length = 7 := h
  exact List.take_of_length_le (by rw [List.length_drop, this]; omega)

/-- The number that Parse makes of a string. -/
def guess (l : List UInt8) : Int := (numF (l.take 4) - 2000) * 12 + numF (l.drop 5) - 1
theorem guess_of (l : List UInt8) (q : Nat) (h : parN l = some q) : guess l = (q : Int) ∧ q < 1200 ∧ fmtN q = l ∧ l.length = 7 := by
  have h2 := parN_some l q h
  have h3 := par_num q h2.1
  rw [h2.2] at h3
  refine ⟨?_, h2.1, h2.2, by rw [← h2.2]; rfl⟩
  unfold guess
  rw [h3.1, h3.2]
  omega

set_option maxRecDepth 100000 in
set_option maxHeartbeats 1000000 in
theorem Parse_calls (s : ByteArray) (_hsz : s.size ≤ 9223372036854775807) (w : World) :
    Calls Tryd.prog 18 #[.string s] w fun e W' => e = .returned (.tuple #[.int .i64 (parV s.data.toList), .int .i64 (parE s.data.toList)]) ∧ Below w.heap.size w W' := by
  by_cases h7 : s.size = 7
  · have h7i : (s.size : Int) = 7 := by omega
    have z4 : (s.extract 0 4).size ≤ 4 := by show (s.extract 0 4).data.toList.length ≤ 4; rw [cut4, List.length_take]; omega
    have z5 : (s.extract 5 7).size ≤ 4 := by
      show (s.extract 5 7).data.toList.length ≤ 4
      have : s.data.toList.length = 7 := h7
      rw [cut5 s h7, List.length_drop]; omega
    have b4 : -60000 ≤ numF (s.extract 0 4).data.toList ∧ numF (s.extract 0 4).data.toList ≤ 300000 := numF_small _ z4
    have b5 : -60000 ≤ numF (s.extract 5 7).data.toList ∧ numF (s.extract 5 7).data.toList ≤ 300000 := numF_small _ z5
    have HG : Hid (guess s.data.toList = (numF (s.extract 0 4).data.toList - 2000) * 12 + numF (s.extract 5 7).data.toList - 1) := Lib.hid (by unfold guess; rw [cut4, cut5 s h7])
    go_enter Tryd.func18, Tryd.ntmps18
    go_wp2_with fail
    go_quiet ((go_at_call 23; exact number_quiet _ _ _ (by first | exact z4 | exact z5)))
    generalize numF (s.extract 0 4).data.toList = Y at *
    generalize numF (s.extract 5 7).data.toList = M at *
    by_cases hv : 0 ≤ (Y - 2000) * 12 + M - 1 ∧ (Y - 2000) * 12 + M - 1 < 1200
    · obtain ⟨q, hq⟩ : ∃ q : Nat, (Y - 2000) * 12 + M - 1 = (q : Int) := ⟨((Y - 2000) * 12 + M - 1).toNat, by omega⟩
      have hq2 : q < 1200 := by omega
      have D := Lib.hid (fun W => Format_calls q hq2 W)
      have bn : Below w.heap.size w (w.drewN nq) := below_drewN (Below.refl _ _) nq
      have Bn := Lib.hid bn
      clear bn
      by_cases heq : fmtN q = s.data.toList
      · have hs := str_eq _ s heq
        have hs2 : ((⟨(fmtN q).toArray⟩ : ByteArray).toList != s.toList) = false := by rw [bne, hs]; rfl
        have HV := Lib.hid (parV_some (parN_first _ q hq2 heq))
        clear heq
        generalize (⟨(fmtN q).toArray⟩ : ByteArray) = F at *
        go_wp2_with fail
        refine (D.out _).mono ?_
        rintro e w2 ⟨rfl, b2⟩
        have B2 := Lib.hid (Bn.out.trans (b2.mono Bn.out.size))
        clear b2
        go_wp2_with fail
        go_ret2
        rw [HV.out.1, HV.out.2]
        exact ⟨rfl, B2.out⟩
      · have hs := str_ne _ s heq
        have hs2 : ((⟨(fmtN q).toArray⟩ : ByteArray).toList != s.toList) = true := by rw [bne, hs]; rfl
        have HV : Hid (parV s.data.toList = 0 ∧ parE s.data.toList = 40) := Lib.hid (parV_none (by
          rcases ho : parN s.data.toList with _ | r
          · rfl
          · have h2 := guess_of _ r ho
            have h3 := HG.out
            rw [h2.1] at h3
            obtain rfl : r = q := by omega
            exact absurd h2.2.2.1 heq))
        clear heq
        generalize (⟨(fmtN q).toArray⟩ : ByteArray) = F at *
        go_wp2_with fail
        refine (D.out _).mono ?_
        rintro e w2 ⟨rfl, b2⟩
        have B2 := Lib.hid (Bn.out.trans (b2.mono Bn.out.size))
        clear b2
        go_wp2_with fail
        go_ret2
        rw [HV.out.1, HV.out.2]
        exact ⟨rfl, B2.out⟩
    · have HV : Hid (parV s.data.toList = 0 ∧ parE s.data.toList = 40) := Lib.hid (parV_none (by
        rcases ho : parN s.data.toList with _ | r
        · rfl
        · have h2 := guess_of _ r ho
          have h3 := HG.out
          rw [h2.1] at h3
          omega))
      have bn : Below w.heap.size w (w.drewN nq) := below_drewN (Below.refl _ _) nq
      have Bn := Lib.hid bn
      have Hv := Lib.hid (show (Y - 2000) * 12 + M - 1 < 0 ∨ 1200 ≤ (Y - 2000) * 12 + M - 1 by omega)
      clear bn hv
      go_wp2_with fail
      refine (Format_not _ _ Hv.out).mono ?_
      rintro e w2 ⟨rfl, rfl⟩
      go_wp2_with fail
      go_ret2
      rw [HV.out.1, HV.out.2]
      exact ⟨rfl, Bn.out⟩
  · have h7i : ¬ (s.size : Int) = 7 := by omega
    have HV : Hid (parV s.data.toList = 0 ∧ parE s.data.toList = 40) := Lib.hid (parV_none (by
      rcases ho : parN s.data.toList with _ | r
      · rfl
      · exact absurd (guess_of _ r ho).2.2.2 h7))
    go_enter Tryd.func18, Tryd.ntmps18
    go_wp2_with fail
    go_ret2
    rw [HV.out.1, HV.out.2]
    exact ⟨rfl, Below.refl _ _⟩
end Go.Proofs.YtmmlneghhjjciaaDoor
