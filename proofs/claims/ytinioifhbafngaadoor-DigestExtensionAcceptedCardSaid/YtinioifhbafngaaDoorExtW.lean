/- The walk of DigestExtensionAccepted: for every list and number it returns true, and nothing that was there has changed. Condition: the table of constants reads as the program lays it. -/
import Derived.Test.YtinioifhbafngaaDoorAny
namespace Go.Proofs.YtinioifhbafngaaDoor
open Go.RowKit

theorem ext_le60 (l : List Bs) (k : Nat) : ∀ x ∈ extF shaF l k, x.length ≤ 60 := fun x hx => by rw [extF_32 shaF shaF_length l k x hx]; omega

set_option maxRecDepth 100000 in
set_option maxHeartbeats 4000000 in
theorem exta_walk (A : Option Addr) (l : List Bs) (cap : Nat) (m : Int) (w : World) (hK : Konst w) (_hc : l.length ≤ cap) (hl : l.length ≤ 9223372036854775807) (hs : Strs w A l) (hx : ∀ x ∈ l, x.length ≤ 9223372036854775807)
    (_m1 : -9223372036854775808 ≤ m) (_m2 : m ≤ 9223372036854775807) :
    Calls Tryd.prog 6 #[.slice A l.length cap, .int .i64 m] w fun e W' => e = .returned (.bool true) ∧ Below w.heap.size w W' := by
  have k0 : HK w := Lib.hid hK
  have s0 : HS w A l := Lib.hid hs
  have Hx := Lib.hid hx
  clear hK hs hx
  go_enter Tryd.func6, Tryd.ntmps6
  go_wp2_with fail
  refine (sane_calls _ (Hid.out k0)).mono ?_
  rintro e w1 ⟨rfl, b1⟩
  have a1 := (Hld.refl w).step b1
  have k1 := k0.keep b1
  have s1 := s0.keep b1
  go_wp2_with fail
  refine (few_calls l A cap 25 _ (by omega) (Hid.out s1) Hx.out hl).mono ?_
  rintro e w2 ⟨⟨v, rfl, hv⟩, b2⟩
  have a2 := a1.step b2
  have k2 := k1.keep b2
  have h25 := fewL_length l 25
  have H60 := Lib.hid (fewL_60 l 25)
  generalize fewL l 25 = L at *
  obtain ⟨A2, c2, rfl, hc2, t2, hA2⟩ := hv.addr
  clear hv s0 s1
  go_wp2_with fail
  refine (Root_all L A2 c2 _ k2 (by omega) hc2 t2 H60.out).mono ?_
  rintro e w3 ⟨rfl, b3⟩
  have a3 := a2.step b3
  have k3 := k2.keep b3
  have t3 := t2.keep b3
  have HL : Hid (∀ k : Nat, k ≤ L.length → verEB (rootF shaF (L.take k)) (k : Int) (rootF shaF L) (L.length : Int) (extF shaF L k) = true) := Lib.hid fun k h => verEB_ext L k h
  have HShort : Hid (∀ k : Nat, k ≤ L.length → (extF shaF L k).length ≤ 2 * binN L.length) := Lib.hid fun k h => extF_short L k h
  have HB := Lib.hid (binN_le L.length)
  have HR := Lib.hid (root_length L)
  obtain ⟨R, hR⟩ : ∃ R, rootF shaF L = R := ⟨_, rfl⟩
  rw [hR] at HL HR
  rw [hR]
  have HRe := Lib.hid hR
  clear hR
  obtain ⟨n, hn⟩ : ∃ n, L.length = n := ⟨_, rfl⟩
  rw [hn] at HL HShort HB h25 hc2 hA2
  rw [hn]
  have Hn := Lib.hid hn
  clear hn
  go_wp2_with fail
  go_loopw [7] (fun kv wr => ∃ k : Nat, k ≤ n + 1 ∧ kv = .int .i64 k ∧ HK wr ∧ HS wr A2 L ∧ Hld w wr) (fun kv _ => n + 1 - (intOf kv).toNat)
  case atStart => exact ⟨0, by omega, rfl, k3, t3, a3⟩
  case round =>
    obtain ⟨k, hk, rfl, kR, tR, aR⟩ := hrel
    by_cases hlt : k ≤ n
    · have hcall := Extension_in L A2 c2 k wr (Hid.out kR) (by rw [Hn.out]; omega) (by rw [Hn.out]; exact hc2) (Hid.out tR) (fun x hm => by have := H60.out x hm; omega) (by rw [Hn.out]; exact hlt)
      rw [Hn.out] at hcall
      have Hcall := Lib.hid hcall
      clear hcall
      have hsh := HShort.out k hlt
      have hbl := HB.out
      have HV := Lib.hid (HL.out k hlt)
      have HX60 := Lib.hid (ext_le60 L k)
      generalize extF shaF L k = X at *
      have q1 : (k : Int) ≤ (n : Int) := by omega
      go_wp2_with fail
      refine Hcall.out.mono ?_
      rintro e w4 ⟨⟨v4, rfl, hv4⟩, b4⟩
      have a4 := aR.step b4
      have k4 := kR.keep b4
      have t4 := tR.keep b4
      obtain ⟨A4, c4, rfl, hc4, x4, _⟩ := hv4.addr
      clear hv4
      go_wp2_with fail
      refine (binary_calls n _ (by omega)).mono ?_
      rintro e w' ⟨rfl, rfl⟩
      have q2 : (X.length : Int) ≤ 2 * (binN n : Int) := by omega
      have hXl : X.length ≤ 1000 := by omega
      have HRk : Hid (∀ w', HK w' → HS w' A2 L → Calls Tryd.prog 26 #[.slice A2 k c2] w' fun e W' => e = .returned (.string ⟨(rootF shaF (L.take k)).toArray⟩) ∧ Below w'.heap.size w' W') :=
        Lib.hid fun w' hk ht => Root_take L A2 c2 k w' hk (by rw [Hn.out]; omega) (by rw [Hn.out]; exact hc2) ht H60.out (by rw [Hn.out]; exact hlt)
      have HVE : Hid (∀ w', HK w' → HS w' A4 X → Calls Tryd.prog 30 #[.string ⟨(rootF shaF (L.take k)).toArray⟩, .int .i64 (k : Int), .string ⟨R.toArray⟩, .int .i64 (n : Int), .slice A4 X.length c4] w' fun e W' => e = .returned (.bool true) ∧ Below w'.heap.size w' W') :=
        Lib.hid fun w' hk ht => by
          have := VerifyExtension_any (rootF shaF (L.take k)) k R n X A4 c4 w' hk (by omega) hXl hc4 ht HX60.out (by rw [root_length]; omega) (by rw [HR.out]; omega)
          rw [HV.out] at this
          exact this
      generalize rootF shaF (L.take k) = Rk at *
      generalize binN n = bn at *
      clear HV
      rcases hA2 with ⟨rfl, rfl, rfl⟩ | ⟨g, rfl⟩
      · obtain rfl : k = 0 := by omega
        go_wp2_with fail
        refine (HRk.out _ k4 t4).mono ?_
        rintro e w5 ⟨rfl, b5⟩
        have a5 := a4.step b5
        have k5 := k4.keep b5
        have t5 := t4.keep b5
        have x5 := x4.keep b5
        go_wp2_with fail
        refine (HVE.out _ k5 x5).mono ?_
        rintro e w6 ⟨rfl, b6⟩
        go_wp2_with fail
        go_roundw
        case rel => exact ⟨1, by omega, rfl, k5.keep b6, t5.keep b6, a5.step b6⟩
        case measure => simp [intOf]
      · have q3 : (k : Int) ≤ (c2 : Int) := by omega
        go_wp2_with fail
        refine (HRk.out _ k4 t4).mono ?_
        rintro e w5 ⟨rfl, b5⟩
        have a5 := a4.step b5
        have k5 := k4.keep b5
        have t5 := t4.keep b5
        have x5 := x4.keep b5
        go_wp2_with fail
        refine (HVE.out _ k5 x5).mono ?_
        rintro e w6 ⟨rfl, b6⟩
        go_wp2_with fail
        go_roundw
        case rel => exact ⟨k + 1, by omega, by go_num, k5.keep b6, t5.keep b6, a5.step b6⟩
        case measure => simp [intOf]; omega
    · have q1 : (n : Int) < (k : Int) := by omega
      have hEx := Extension_any L A2 c2 m wr (Hid.out kR) (by rw [Hn.out]; omega) (by rw [Hn.out]; exact hc2) (Hid.out tR) H60.out
      rw [Hn.out] at hEx
      have HEx := Lib.hid hEx
      clear hEx HL HShort
      by_cases hin : 0 ≤ m ∧ m ≤ (n : Int)
      · have HE : Hid (exE L m = 0) := Lib.hid (by unfold exE; rw [Hn.out, if_pos hin])
        generalize exF L m = X at *
        generalize exE L m = xe at *
        obtain ⟨hm1, hm2⟩ := hin
        have hxe := HE.out
        subst hxe
        go_wp2_with fail
        refine HEx.out.mono ?_
        rintro e w4 ⟨⟨A4, c4, rfl, hc4, x4, _⟩, b4⟩
        have a4 := aR.step b4
        go_wp2_with fail
        go_ret
        exact ⟨rfl, Hid.out a4⟩
      · have HE : Hid (exE L m = 2) := Lib.hid (by unfold exE; rw [Hn.out, if_neg hin])
        have HX : Hid (exF L m = []) := Lib.hid (by unfold exF; rw [Hn.out, if_neg hin])
        have HVE : Hid (∀ w' A c, HK w' → Calls Tryd.prog 30 #[.string ⟨R.toArray⟩, .int .i64 m, .string ⟨R.toArray⟩, .int .i64 (n : Int), .slice A 0 c] w' fun e W' => e = .returned (.bool false) ∧ Below w'.heap.size w' W') :=
          Lib.hid fun w' A c hk => by
            have := VerifyExtension_any R m R n [] A c w' hk (by omega) (by simp) (Nat.zero_le _) (Lib.hid (Or.inl rfl)) (fun x hx => by simp at hx) (by rw [HR.out]; omega) (by rw [HR.out]; omega)
            rw [verEB_out _ _ _ _ _ hin] at this
            exact this
        generalize exF L m = X at *
        generalize exE L m = xe at *
        have hxe := HE.out
        have hX := HX.out
        subst hxe hX
        by_cases hm0 : m < 0
        · clear hin
          go_wp2_with fail
          refine HEx.out.mono ?_
          rintro e w4 ⟨⟨A4, c4, rfl, hc4, x4, _⟩, b4⟩
          have a4 := aR.step b4
          have k4 := kR.keep b4
          go_wp2_with fail
          refine (HVE.out _ A4 c4 k4).mono ?_
          rintro e w5 ⟨rfl, b5⟩
          have a5 := a4.step b5
          go_wp2_with fail
          go_ret
          exact ⟨rfl, Hid.out a5⟩
        · have hm1 : 0 ≤ m := by omega
          have hm2 : (n : Int) < m := by omega
          clear hin hm0
          go_wp2_with fail
          refine HEx.out.mono ?_
          rintro e w4 ⟨⟨A4, c4, rfl, hc4, x4, _⟩, b4⟩
          have a4 := aR.step b4
          have k4 := kR.keep b4
          go_wp2_with fail
          refine (HVE.out _ A4 c4 k4).mono ?_
          rintro e w5 ⟨rfl, b5⟩
          have a5 := a4.step b5
          go_wp2_with fail
          go_ret
          exact ⟨by show Ending.returned (.bool (!decide (m ≤ (n : Int)))) = _; rw [decide_eq_false (by omega)]; rfl, Hid.out a5⟩
end Go.Proofs.YtinioifhbafngaaDoor
