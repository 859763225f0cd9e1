/- Contract of the reference implementation of layer 4: Parse. -/
import Derived.Test.YtmmlneghhjjciaaDoorRefQ
namespace Go.Proofs.YtmmlneghhjjciaaDoor
open Go.RowKit

/-- What Parse answers: the period, or 0; OK or the error. -/
def parV (l : List UInt8) : Int := match parN l with | some p => (p : Int) | none => 0
def parE (l : List UInt8) : Int := match parN l with | some _ => 0 | none => 40
theorem parV_some {l : List UInt8} {p : Nat} (h : parN l = some p) : parV l = (p : Int) ∧ parE l = 0 := by unfold parV parE; rw [h]; exact ⟨rfl, rfl⟩
theorem parV_none {l : List UInt8} (h : parN l = none) : parV l = 0 ∧ parE l = 40 := by unfold parV parE; rw [h]; exact ⟨rfl, rfl⟩

theorem str_eq (l : List UInt8) (s : ByteArray) (h : l = s.data.toList) : ((⟨l.toArray⟩ : ByteArray).toList == s.toList) = true := by
  rw [ByteArray.toList_eq, ByteArray.toList_eq]; simp [h]
theorem str_ne (l : List UInt8) (s : ByteArray) (h : l ≠ s.data.toList) : ((⟨l.toArray⟩ : ByteArray).toList == s.toList) = false := by
  rw [ByteArray.toList_eq, ByteArray.toList_eq, beq_eq_false_iff_ne]
  simpa using h

set_option maxRecDepth 100000 in
theorem rParse_calls (s : ByteArray) (w : World) :
    Calls Tryd.prog 19 #[.string s] w fun e W' => e = .returned (.tuple #[.int .i64 (parV s.data.toList), .int .i64 (parE s.data.toList)]) ∧ Below w.heap.size w W' := by
  obtain ⟨V, hV⟩ : ∃ V, parV s.data.toList = V := ⟨_, rfl⟩
  obtain ⟨R, hR⟩ : ∃ R, parE s.data.toList = R := ⟨_, rfl⟩
  have HY : Hid (∀ p, p < 1200 → fmtN p = s.data.toList → V = (p : Int) ∧ R = 0) := Lib.hid fun p hp h => by
    rw [← hV, ← hR]; exact parV_some (parN_first _ p hp h)
  have HN : Hid ((∀ p, p < 1200 → fmtN p ≠ s.data.toList) → V = 0 ∧ R = 40) := Lib.hid fun h => by
    rw [← hV, ← hR]; exact parV_none (parN_never _ h)
  rw [hV, hR]
  clear hV hR
  go_enter Tryd.func19, Tryd.ntmps19
  go_wp2_with fail
  go_loopw [4] (fun pv wr => ∃ i : Nat, i ≤ 1200 ∧ pv = .int .i64 i ∧ Hid (∀ q, q < i → fmtN q ≠ s.data.toList) ∧ Hid (Below w.heap.size w wr)) (fun pv _ => 1200 - (intOf pv).toNat)
  case atStart => exact ⟨0, by omega, rfl, Lib.hid (fun q h => by omega), Lib.hid (Below.refl _ _)⟩
  case round =>
    obtain ⟨i, hi, rfl, HQ, HB⟩ := hrel
    by_cases hlt : i < 1200
    · have D := Lib.hid (fun W => rFormat_calls i hlt W)
      by_cases heq : fmtN i = s.data.toList
      · have hs := str_eq _ s heq
        have HY2 := Lib.hid (HY.out i hlt heq)
        clear heq
        generalize (⟨(fmtN i).toArray⟩ : ByteArray) = F at *
        go_wp2_with fail
        refine (D.out _).mono ?_
        rintro e w2 ⟨rfl, b2⟩
        have HB2 := Lib.hid (HB.out.trans (b2.mono HB.out.size))
        clear b2 HB
        go_wp2_with fail
        go_ret2
        rw [HY2.out.1, HY2.out.2]
        exact ⟨rfl, HB2.out⟩
      · have hs := str_ne _ s heq
        have HQ2 : Hid (∀ q, q < i + 1 → fmtN q ≠ s.data.toList) := Lib.hid fun q hq => by
          rcases Nat.lt_or_ge q i with h | h
          · exact HQ.out q h
          · obtain rfl : q = i := by omega
            exact heq
        clear heq
        generalize (⟨(fmtN i).toArray⟩ : ByteArray) = F at *
        go_wp2_with fail
        refine (D.out _).mono ?_
        rintro e w2 ⟨rfl, b2⟩
        have HB2 := Lib.hid (HB.out.trans (b2.mono HB.out.size))
        clear b2 HB
        go_wp2_with fail
        exact ⟨⟨i + 1, by omega, by go_num, HQ2, HB2⟩, by simp [intOf]; omega⟩
    · obtain rfl : i = 1200 := by omega
      have HN2 := Lib.hid (HN.out HQ.out)
      go_wp2_with fail
      go_ret2
      rw [HN2.out.1, HN2.out.2]
      exact ⟨rfl, HB.out⟩
end Go.Proofs.YtmmlneghhjjciaaDoor
