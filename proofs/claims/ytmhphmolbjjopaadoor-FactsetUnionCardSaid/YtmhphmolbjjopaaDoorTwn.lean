/- royaltyref06.Twins says true of every list that has twins. -/
import Derived.Test.YtmhphmolbjjopaaDoorOf
import Derived.Test.YtmhphmolbjjopaaDoorRfE2
namespace Go.Proofs.YtmhphmolbjjopaaDoor
open Go.RowKit Go.Maps
/-- Two valid facts with one ID and different encodings. -/
def twP (f g : Fa) : Prop := okA f = true ∧ okA g = true ∧ encV f.1 f.2.data.toList ≠ encV g.1 g.2.data.toList ∧ keyF f = keyF g
/-- No twins among the first k. -/
def NoTw (l : List Fa) (k : Nat) : Prop := ∀ i, i < k → ∀ j, j < i → ¬ twP (l.getD i zeroA) (l.getD j zeroA)
theorem noTw_all {l : List Fa} (hn : NoTw l l.length) : ¬ TwinsP l := by
  rintro ⟨f, hf, g, hg, h1, h2, h3, h4⟩
  obtain ⟨i, hi, rfl⟩ := List.mem_iff_getElem.1 hf
  obtain ⟨j, hj, rfl⟩ := List.mem_iff_getElem.1 hg
  have ei : l.getD i zeroA = l[i] := by rw [List.getD_eq_getElem?_getD, List.getElem?_eq_getElem hi]; rfl
  have ej : l.getD j zeroA = l[j] := by rw [List.getD_eq_getElem?_getD, List.getElem?_eq_getElem hj]; rfl
  rcases Nat.lt_trichotomy i j with h | h | h
  · exact hn j hj i h (by rw [ei, ej]; exact ⟨h2, h1, fun e => h3 e.symm, h4.symm⟩)
  · subst h; exact h3 rfl
  · exact hn i hi j h (by rw [ei, ej]; exact ⟨h1, h2, h3, h4⟩)
theorem noTw_succ {l : List Fa} {k : Nat} (h : NoTw l k) (h2 : ∀ j, j < k → ¬ twP (l.getD k zeroA) (l.getD j zeroA)) : NoTw l (k + 1) := fun i hi j hj => by
  rcases Nat.lt_or_ge i k with h3 | h3
  · exact h i h3 j hj
  · obtain rfl : i = k := by omega
    exact h2 j hj
theorem enc_small {v : Nat → Int} {t : ByteArray} (h : okT v t = true) : (⟨(encV v t.data.toList).toArray⟩ : ByteArray).size ≤ 1000000 := by
  have h1 := okT_size h
  have h2 := (encV_length v t.data.toList).2
  have h3 : t.data.toList.length = t.size := rfl
  rw [← ByteArray.size_data, List.size_toArray]
  omega
theorem below_succ {P : Nat → Prop} {k : Nat} (hp : ∀ j, j < k → P j) (h2 : P k) : ∀ j, j < k + 1 → P j := fun j hj => by
  rcases Nat.lt_or_ge j k with h3 | h3
  · exact hp j h3
  · obtain rfl : j = k := by omega
    exact h2
set_option maxRecDepth 100000 in
set_option maxHeartbeats 4000000 in
theorem Twins_calls (l : List Fa) (A : Option Addr) (cap : Nat) (w : World) (hA : FactsS w A l) (hl : l.length ≤ 1000000) :
    Calls Tryd.prog 19 #[.slice A l.length cap] w fun e W' => ∃ c : Bool, e = .returned (.bool c) ∧ (TwinsP l → c = true) ∧ Below w.heap.size w W' := by
  have HA := Lib.hid hA
  clear hA
  go_enter Tryd.func19, Tryd.ntmps19
  go_wp2_with fail
  go_loopw [3] (fun iv wr => ∃ k : Nat, k ≤ l.length ∧ iv = .int .i64 k ∧ Hid (NoTw l k) ∧ Hid (Below w.heap.size w wr)) (fun iv _ => l.length - (intOf iv).toNat)
  case atStart => exact ⟨0, by omega, rfl, Lib.hid (fun i hi => absurd hi (Nat.not_lt_zero i)), Lib.hid (Below.refl _ _)⟩
  case round =>
    obtain ⟨k, hk, rfl, HN, HB⟩ := hrel
    have k0 : 0 ≤ (k : Int) := by omega
    by_cases hlt : k < l.length
    · have k1 : (k : Int) < (l.length : Int) := by omega
      rcases HA.out with hz | ⟨gb, o, rfl, hst⟩
      · rw [hz] at hlt; exact absurd hlt (by simp)
      have Hst := Lib.hid hst
      clear hst HA
      have Hat : Hid (∀ j x, (factC (l.getD k zeroA).1 (l.getD k zeroA).2)[j]? = some x → wr.cell? ⟨gb, o + k * 18 + j, none⟩ = some x) := Lib.hid (Hst.out.keep HB.out k hlt)
      have HE := Lib.hid (fun W => refEncode_calls (l.getD k zeroA).1 (l.getD k zeroA).2 W)
      cases hok : okT (l.getD k zeroA).1 (l.getD k zeroA).2 with
      | false =>
        have e1 : codeF (l.getD k zeroA).1 (l.getD k zeroA).2 = [] := by unfold codeF; rw [hok]; rfl
        have e2 : errF (l.getD k zeroA).1 (l.getD k zeroA).2 = 50 := by unfold errF; rw [hok]; rfl
        rw [e1, e2] at HE
        clear e1 e2
        have Hnext := Lib.hid (noTw_succ HN.out (fun j _ h => by have h1 : okT (l.getD k zeroA).1 (l.getD k zeroA).2 = true := h.1; rw [hok] at h1; cases h1))
        clear hok HN
        generalize hf : l.getD k zeroA = f at Hat HE
        have Hf := Lib.hid hf
        clear hf
        obtain ⟨u, t⟩ := f
        dsimp only at Hat HE
        go_wp2_with (refine wpList_load_at rfl _ rfl _ _ rfl _ _ Hat.out ?_)
        refine (HE.out _).mono ?_
        rintro e W2 ⟨rfl, b3⟩
        have B2 := Lib.hid (HB.out.trans (b3.mono HB.out.size))
        clear b3 HB Hat HE
        go_upto_region 6 with (fail)
        go_loopw [6] (fun iv wr => iv = .int .i64 0 ∧ Hid (Below w.heap.size w wr)) (fun _ _ => 0)
        case atStart => exact ⟨rfl, B2⟩
        case round =>
          obtain ⟨rfl, HB3⟩ := hrel
          rcases Nat.eq_zero_or_pos k with hk0 | hk0
          · have k2 : ¬ (0 : Int) < (k : Int) := by omega
            go_wp2_with fail
            go_roundw
            case rel => exact ⟨k + 1, by omega, by go_num, Hnext, HB3⟩
            case measure => simp [intOf]; omega
          · have k2 : (0 : Int) < (k : Int) := by omega
            go_wp2_with fail
            go_roundw
            case rel => exact ⟨k + 1, by omega, by go_num, Hnext, HB3⟩
            case measure => simp [intOf]; omega
      | true =>
        have e1 : codeF (l.getD k zeroA).1 (l.getD k zeroA).2 = encV (l.getD k zeroA).1 (l.getD k zeroA).2.data.toList := by unfold codeF; rw [hok]; rfl
        have e2 : errF (l.getD k zeroA).1 (l.getD k zeroA).2 = 0 := by unfold errF; rw [hok]; rfl
        rw [e1, e2] at HE
        clear e1 e2
        have HX := Lib.hid (show ∃ X, (⟨(encV (l.getD k zeroA).1 (l.getD k zeroA).2.data.toList).toArray⟩ : ByteArray) = X from ⟨_, rfl⟩)
        obtain ⟨X, hX⟩ := HX.out
        clear HX
        rw [hX] at HE
        have hXs : X.size ≤ 1000000 := by rw [← hX]; exact enc_small hok
        have HS := Lib.hid (fun W => refSum_calls X W hXs)
        have hXl : X.data.toList = encV (l.getD k zeroA).1 (l.getD k zeroA).2.data.toList := by rw [← hX]
        have hxk : shaF X.data.toList = keyF (l.getD k zeroA) := by rw [hXl]; rfl
        rw [hxk] at HS
        clear hxk
        have HXl := Lib.hid hXl
        have Hok := Lib.hid hok
        clear hXl hX hok
        generalize hf : l.getD k zeroA = f at Hat HE
        have Hf := Lib.hid hf
        clear hf
        obtain ⟨u, t⟩ := f
        dsimp only at Hat HE
        go_wp2_with (refine wpList_load_at rfl _ rfl _ _ rfl _ _ Hat.out ?_)
        refine (HE.out _).mono ?_
        rintro e W2 ⟨rfl, b3⟩
        have B2 := Lib.hid (HB.out.trans (b3.mono HB.out.size))
        clear b3 HB Hat HE
        go_upto_region 6 with (fail)
        go_loopw [6] (fun iv wr => ∃ j : Nat, j ≤ k ∧ iv = .int .i64 j ∧ Hid (∀ i, i < j → ¬ twP (l.getD k zeroA) (l.getD i zeroA)) ∧ Hid (Below w.heap.size w wr)) (fun iv _ => k - (intOf iv).toNat)
        case atStart => exact ⟨0, by omega, rfl, Lib.hid (fun i hi => absurd hi (Nat.not_lt_zero i)), B2⟩
        case round =>
          clear B2
          obtain ⟨j, hj, rfl, HJ, HB3⟩ := hrel
          have j0 : 0 ≤ (j : Int) := by omega
          by_cases hlt2 : j < k
          · have j1 : (j : Int) < (k : Int) := by omega
            have hjl : j < l.length := by omega
            have j2 : (j : Int) < (l.length : Int) := by omega
            have Hat : Hid (∀ i x, (factC (l.getD j zeroA).1 (l.getD j zeroA).2)[i]? = some x → _ ) := Lib.hid (Hst.out.keep HB3.out j hjl)
            have HE := Lib.hid (fun W => refEncode_calls (l.getD j zeroA).1 (l.getD j zeroA).2 W)
            cases hok2 : okT (l.getD j zeroA).1 (l.getD j zeroA).2 with
            | false =>
              have e1 : codeF (l.getD j zeroA).1 (l.getD j zeroA).2 = [] := by unfold codeF; rw [hok2]; rfl
              have e2 : errF (l.getD j zeroA).1 (l.getD j zeroA).2 = 50 := by unfold errF; rw [hok2]; rfl
              rw [e1, e2] at HE
              clear e1 e2
              have Hnext := Lib.hid (below_succ HJ.out (fun h => by have h1 : okT (l.getD j zeroA).1 (l.getD j zeroA).2 = true := h.2.1; rw [hok2] at h1; cases h1))
              clear hok2 HJ
              generalize hf2 : l.getD j zeroA = f2 at Hat HE
              have Hf2 := Lib.hid hf2
              clear hf2
              obtain ⟨u2, t2⟩ := f2
              dsimp only at Hat HE
              go_wp2_with (refine wpList_load_at rfl _ rfl _ _ rfl _ _ Hat.out ?_)
              refine (HE.out _).mono ?_
              rintro e W3 ⟨rfl, b3⟩
              have B3 := Lib.hid (HB3.out.trans (b3.mono HB3.out.size))
              clear b3 HB3 Hat HE
              go_wp2_with fail
              go_roundw
              case rel => exact ⟨j + 1, by omega, by go_num, Hnext, B3⟩
              case measure => simp [intOf]; omega
            | true =>
              have e1 : codeF (l.getD j zeroA).1 (l.getD j zeroA).2 = encV (l.getD j zeroA).1 (l.getD j zeroA).2.data.toList := by unfold codeF; rw [hok2]; rfl
              have e2 : errF (l.getD j zeroA).1 (l.getD j zeroA).2 = 0 := by unfold errF; rw [hok2]; rfl
              rw [e1, e2] at HE
              clear e1 e2
              obtain ⟨Y, hY⟩ : ∃ Y, (⟨(encV (l.getD j zeroA).1 (l.getD j zeroA).2.data.toList).toArray⟩ : ByteArray) = Y := ⟨_, rfl⟩
              rw [hY] at HE
              have hYs : Y.size ≤ 1000000 := by rw [← hY]; exact enc_small hok2
              have HS2 := Lib.hid (fun W => refSum_calls Y W hYs)
              have hYl : Y.data.toList = encV (l.getD j zeroA).1 (l.getD j zeroA).2.data.toList := by rw [← hY]
              have hyk : shaF Y.data.toList = keyF (l.getD j zeroA) := by rw [hYl]; rfl
              rw [hyk] at HS2
              clear hyk
              have HYl := Lib.hid hYl
              have Hok2 := Lib.hid hok2
              clear hYl hY hok2
              generalize hf2 : l.getD j zeroA = f2 at Hat HE
              have Hf2 := Lib.hid hf2
              clear hf2
              obtain ⟨u2, t2⟩ := f2
              dsimp only at Hat HE
              go_wp2_with (refine wpList_load_at rfl _ rfl _ _ rfl _ _ Hat.out ?_)
              refine (HE.out _).mono ?_
              rintro e W3 ⟨rfl, b3⟩
              have B3 := Lib.hid (HB3.out.trans (b3.mono HB3.out.size))
              clear b3 HB3 Hat HE
              by_cases hXY : X = Y
              · subst hXY
                have Hnext := Lib.hid (below_succ HJ.out (fun h => h.2.2.1 (HXl.out.symm.trans HYl.out)))
                have heq : (X.toList == X.toList) = true := by simp
                clear HJ
                go_wp2_with fail
                go_roundw
                case rel => exact ⟨j + 1, by omega, by go_num, Hnext, B3⟩
                case measure => simp [intOf]; omega
              · have hd : (X.toList == Y.toList) = false := by
                    rw [beq_eq_false_iff_ne, ByteArray.toList_eq, ByteArray.toList_eq]
                    intro e
                    exact hXY (ByteArray.ext (Array.ext' e))
                have Hd := Lib.hid hXY
                clear hXY
                by_cases hKK : keyF (l.getD k zeroA) = keyF (l.getD j zeroA)
                · rw [hKK] at HS
                  generalize (⟨(keyF (l.getD j zeroA)).toArray⟩ : ByteArray) = Z at *
                  have heq : (Z.toList == Z.toList) = true := by simp
                  go_wp2_with fail
                  refine (HS.out _).mono ?_
                  rintro e W4 ⟨rfl, b3⟩
                  replace B3 := Lib.hid (B3.out.trans (b3.mono B3.out.size))
                  clear b3
                  go_wp2_with fail
                  refine (HS2.out _).mono ?_
                  rintro e W5 ⟨rfl, b3⟩
                  replace B3 := Lib.hid (B3.out.trans (b3.mono B3.out.size))
                  clear b3
                  go_wp2_with fail
                  go_ret
                  exact ⟨true, rfl, fun _ => rfl, B3.out⟩
                · have Hnext := Lib.hid (below_succ HJ.out (fun h => hKK h.2.2.2))
                  have hne := bytes_inj _ _ hKK
                  clear hKK HJ
                  generalize (⟨(keyF (l.getD k zeroA)).toArray⟩ : ByteArray) = Z1 at *
                  generalize (⟨(keyF (l.getD j zeroA)).toArray⟩ : ByteArray) = Z2 at *
                  have hd2 : (Z1.toList == Z2.toList) = false := by
                    rw [beq_eq_false_iff_ne, ByteArray.toList_eq, ByteArray.toList_eq]
                    intro e
                    exact hne (ByteArray.ext (Array.ext' e))
                  clear hne
                  go_wp2_with fail
                  refine (HS.out _).mono ?_
                  rintro e W4 ⟨rfl, b3⟩
                  replace B3 := Lib.hid (B3.out.trans (b3.mono B3.out.size))
                  clear b3
                  go_wp2_with fail
                  refine (HS2.out _).mono ?_
                  rintro e W5 ⟨rfl, b3⟩
                  replace B3 := Lib.hid (B3.out.trans (b3.mono B3.out.size))
                  clear b3
                  go_wp2_with fail
                  go_roundw
                  case rel => exact ⟨j + 1, by omega, by go_num, Hnext, B3⟩
                  case measure => simp [intOf]; omega
          · obtain rfl : j = k := by omega
            have j1 : ¬ (j : Int) < (j : Int) := by omega
            have Hnext := Lib.hid (noTw_succ HN.out HJ.out)
            go_wp2_with fail
            go_roundw
            case rel => exact ⟨j + 1, by omega, by go_num, Hnext, HB3⟩
            case measure => simp [intOf]; omega
    · obtain rfl : k = l.length := by omega
      have k1 : (l.length : Int) ≤ (l.length : Int) := by omega
      clear hlt
      go_wp2_with fail
      go_ret
      exact ⟨false, rfl, fun h => absurd h (noTw_all HN.out), HB.out⟩
end Go.Proofs.YtmhphmolbjjopaaDoor
