/- The walk of AmountApportionMatchesReference: for all totals and every list it returns true, and nothing that was there has changed. -/
import Derived.Test.YtediphiebamffaaHelp
namespace Go.Proofs.Ytediphiebamffaa
open Go.RowKit

theorem RowI.arg {w : World} {base : Nat} {v : Value} {l : List Int} (h : RowI w base v l) (h64 : In64 l) : ∃ A cap, v = .slice A l.length cap ∧ Arg w A l cap := by
  have h0 := h
  obtain ⟨h1, h2⟩ := h
  rcases h2 with ⟨rfl, h⟩ | ⟨g, cap, cur, rfl, hb2, hg, hc, hm, rest⟩
  · have : l = [] := List.length_eq_zero_iff.1 h
    subst this
    exact ⟨none, 0, rfl, Or.inl ⟨rfl, rfl, rfl⟩, h64, Nat.le_refl _, by omega⟩
  · refine ⟨_, cap, rfl, Or.inr (Or.inr ⟨g, 0, rfl, fun i hi => ?_⟩), h64, hc, hm⟩
    rw [Nat.zero_add, h0.cellAt i (by omega), cellsI_get l i hi]
theorem in64_wt (l : List Int) : In64 (wtL l) := fun x hx => by have := wtL_mem l x hx; omega
/-- What the outer loop holds. -/
structure OutR (w0 w : World) (gT : Nat) (tt : Nat → Int) (A : Option Addr) (L : List Int) (c : Nat) : Prop where
  tot : ∀ i, i < 3 → w.cell? ⟨gT, i, none⟩ = some (.int .i64 (tt i))
  arg : Arg w A L c
  bel : Below w0.heap.size w0 w
theorem OutR.step {w0 w w' : World} {gT : Nat} {tt : Nat → Int} {A : Option Addr} {L : List Int} {c : Nat} (h : OutR w0 w gT tt A L c) (b : Below w.heap.size w w') : OutR w0 w' gT tt A L c :=
  ⟨fun i hi => (b.cell (p := ⟨gT, i, none⟩) (lt_of_cell (h.tot i hi))).trans (h.tot i hi), h.arg.keep b, h.bel.trans (b.mono h.bel.size)⟩
/-- What the inner loop holds beside it. -/
structure InnR (w0 w : World) (gT : Nat) (tt : Nat → Int) (A : Option Addr) (L : List Int) (c : Nat) (gW : Nat) (m : Nat → List Int) (B : Nat → Option Addr) (d : Nat → Nat) : Prop where
  out : OutR w0 w gT tt A L c
  row : ∀ j, j < 2 → w.cell? ⟨gW, j, none⟩ = some (.slice (B j) (m j).length (d j)) ∧ Ints w (B j) (m j)
theorem InnR.step {w0 w w' : World} {gT : Nat} {tt : Nat → Int} {A : Option Addr} {L : List Int} {c gW : Nat} {m : Nat → List Int} {B : Nat → Option Addr} {d : Nat → Nat} (h : InnR w0 w gT tt A L c gW m B d) (b : Below w.heap.size w w') : InnR w0 w' gT tt A L c gW m B d :=
  ⟨h.out.step b, fun j hj => ⟨(b.cell (p := ⟨gW, j, none⟩) (lt_of_cell (h.row j hj).1)).trans (h.row j hj).1, (h.row j hj).2.keep b⟩⟩
set_option maxRecDepth 100000 in
set_option maxHeartbeats 8000000 in
theorem apm_walk (t : Int) (A : Option Addr) (l : List Int) (cap : Nat) (w : World) (ht : -9223372036854775808 ≤ t) (ht' : t ≤ 9223372036854775807) (ha : Arg w A l cap) :
    Calls Try.prog 4 #[.int .i64 t, .slice A l.length cap] w fun e W' => e = .returned (.bool true) ∧ Below w.heap.size w W' := by
  have HA := Lib.hid ha
  have H64 := Lib.hid ha.in64
  have p1 := pickF_lt t 1000000000000001 (by omega)
  have p2 := pickF_lt t 1000 (by omega)
  have H1 := Lib.hid (fun W => pick_calls t 1000000000000001 W ht ht' (by omega) (by omega))
  have H2 := Lib.hid (fun W => pick_calls t 1000 W ht ht' (by omega) (by omega))
  have C1 := Lib.hid (fun W => own_cents t W ht ht')
  have C2 := Lib.hid (fun W => cents_calls t W ht ht')
  clear ha
  generalize pickF t 1000000000000001 = t1 at *
  generalize pickF t 1000 = t2 at *
  generalize (if t < 0 then 0 else t / 10000 * 10000) = cx at *
  generalize (if t < 0 then t else t % 10000) = cy at *
  clear p1 p2
  go_enter Try.func4, Try.ntmps4
  go_wp2_with fail
  refine (sane_calls _).mono ?_
  rintro e w1 ⟨rfl, b1⟩
  have a1 : Hld w w1 := Lib.hid b1
  have HA1 := Lib.hid (HA.out.keep b1)
  clear b1 HA
  go_wp2_with fail
  refine (cut_calls l A cap _ HA1.out).mono ?_
  rintro e w2 ⟨⟨v, rfl, hv⟩, b2⟩
  have a2 := a1.step b2
  clear b2 a1 HA1
  have hL40 : (l.take 40).length ≤ 40 := by rw [List.length_take]; omega
  have h64 := in64_take H64.out 40
  generalize l.take 40 = L at *
  obtain ⟨A2, c2, rfl, hA2⟩ := hv.arg h64
  have HA2 := Lib.hid hA2
  clear hv hA2
  go_wp2_with fail
  refine (H1.out _).mono ?_
  rintro e w3 ⟨rfl, rfl⟩
  go_wp2_with fail
  refine (H2.out _).mono ?_
  rintro e w3 ⟨rfl, rfl⟩
  go_wp2_with fail
  obtain ⟨tt, htt⟩ : ∃ tt : Nat → Int, tt 0 = t ∧ tt 1 = t1 ∧ tt 2 = t2 := ⟨fun i => if i = 0 then t else if i = 1 then t1 else t2, rfl, rfl, rfl⟩
  have HO : Hid (OutR w (w2.alloc (.cells #[.int .i64 t, .int .i64 t1, .int .i64 t2] 3)) w2.heap.size tt A2 L c2) := Lib.hid (by
    have hb := heap_alloc_new w2 (.cells #[.int .i64 t, .int .i64 t1, .int .i64 t2] 3)
    refine ⟨fun i hi => ?_, HA2.out.keep ((Below.refl _ _).alloc (Nat.le_refl _) _), (Hid.out a2).alloc a2.size _⟩
    rw [cell_of_row _ _ _ _ _ _ hb]
    have h3 : i = 0 ∨ i = 1 ∨ i = 2 := by omega
    rcases h3 with rfl | rfl | rfl
    · rw [htt.1]; rfl
    · rw [htt.2.1]; rfl
    · rw [htt.2.2]; rfl)
  clear htt HA2 a2
  generalize w2.heap.size = gT at *
  generalize w2.alloc (.cells #[.int .i64 t, .int .i64 t1, .int .i64 t2] 3) = w3 at *
  obtain ⟨n, hn⟩ : ∃ n, L.length = n := ⟨_, rfl⟩
  have Hn := Lib.hid hn
  rw [hn] at hL40 ⊢
  clear hn
  go_loopw [32] (fun iv wr => ∃ i : Nat, i ≤ 3 ∧ iv = .int .i64 (i : Int) ∧ Hid (OutR w wr gT tt A2 L c2)) (fun iv _ => 3 - (intOf iv).toNat)
  case atStart => exact ⟨0, by omega, rfl, HO⟩
  case round =>
    clear HO
    obtain ⟨i, hi, rfl, HO⟩ := hrel
    by_cases hlt : i < 3
    · have ct := HO.out.tot i hlt
      obtain ⟨tv, htv⟩ : ∃ x, tt i = x := ⟨_, rfl⟩
      rw [htv] at ct
      clear htv
      have k0 : (0 : Int) ≤ (i : Int) := by omega
      have k1 : (i : Int) < 3 := by omega
      have hwc := weights_calls L A2 c2 wr HO.out.arg
      rw [Hn.out] at hwc
      have HWC := Lib.hid hwc
      clear hwc
      go_wp2_with fail
      refine HWC.out.mono ?_
      rintro e w4 ⟨⟨v, rfl, hv⟩, b4⟩
      have HO4 := Lib.hid (HO.out.step b4)
      obtain ⟨A4, c4, rfl, hA4⟩ := hv.arg (in64_wt L)
      have HA4 := Lib.hid hA4
      clear hv hA4 b4 HWC HO
      go_wp2_with fail
      obtain ⟨m, hm0, hm1⟩ : ∃ m : Nat → List Int, m 0 = L ∧ m 1 = wtL L := ⟨fun j => if j = 0 then L else wtL L, rfl, rfl⟩
      obtain ⟨B, hB0, hB1⟩ : ∃ B : Nat → Option Addr, B 0 = A2 ∧ B 1 = A4 := ⟨fun j => if j = 0 then A2 else A4, rfl, rfl⟩
      obtain ⟨d, hd0, hd1⟩ : ∃ d : Nat → Nat, d 0 = c2 ∧ d 1 = c4 := ⟨fun j => if j = 0 then c2 else c4, rfl, rfl⟩
      have HI : Hid (InnR w (w4.alloc (.cells #[.slice A2 n c2, .slice A4 (wtL L).length c4] 29)) gT tt A2 L c2 w4.heap.size m B d) := Lib.hid (by
        have hb := heap_alloc_new w4 (.cells #[.slice A2 n c2, .slice A4 (wtL L).length c4] 29)
        have bal : Below w4.heap.size w4 (w4.alloc (.cells #[.slice A2 n c2, .slice A4 (wtL L).length c4] 29)) := (Below.refl _ _).alloc (Nat.le_refl _) _
        refine ⟨HO4.out.step bal, fun j hj => ?_⟩
        rw [cell_of_row _ _ _ _ _ _ hb]
        have h2 : j = 0 ∨ j = 1 := by omega
        rcases h2 with rfl | rfl
        · rw [hm0, hB0, hd0, Hn.out]; exact ⟨rfl, (HO4.out.arg.ints).keep bal⟩
        · rw [hm1, hB1, hd1]; exact ⟨rfl, (HA4.out.ints).keep bal⟩)
      have HM : Hid (∀ j, j < 2 → (m j).length ≤ 40 ∧ In64 (m j)) := Lib.hid (by
        intro j hj
        have h2 : j = 0 ∨ j = 1 := by omega
        rcases h2 with rfl | rfl
        · rw [hm0, Hn.out]; exact ⟨hL40, h64⟩
        · rw [hm1]; exact ⟨by rw [wtL_length]; omega, in64_wt L⟩)
      clear hm0 hm1 hB0 hB1 hd0 hd1 HO4 HA4
      generalize w4.heap.size = gW at *
      generalize hw5 : w4.alloc (.cells #[.slice A2 n c2, .slice A4 (wtL L).length c4] 29) = w5 at *
      clear hw5
      obtain ⟨wo, rfl⟩ : ∃ wo : World, wo = wr := ⟨_, rfl⟩
      go_loopw [41] (fun jv wz => ∃ j : Nat, j ≤ 2 ∧ jv = .int .i64 (j : Int) ∧ Hid (InnR w wz gT tt A2 L c2 gW m B d)) (fun jv _ => 2 - (intOf jv).toNat)
      case atStart => exact ⟨0, by omega, rfl, HI⟩
      case round =>
        clear HI
        obtain ⟨j, hj, rfl, HI⟩ := hrel
        by_cases hlt2 : j < 2
        · have hrow := HI.out.row j hlt2
          have hmj := HM.out j hlt2
          generalize m j = M at *
          generalize B j = Bj at *
          generalize d j = dj at *
          have c1 := hrow.1
          have HIn := Lib.hid hrow.2
          have k2 : (0 : Int) ≤ (j : Int) := by omega
          have k3 : (j : Int) < 2 := by omega
          have H64M := Lib.hid hmj.2
          have hM40 := hmj.1
          clear hrow hmj
          by_cases hok : apOk tv M
          · have D1 := Lib.hid (fun W h => ownAp_ok tv M Bj dj W h (by omega) hok)
            have D2 := Lib.hid (fun W h => refAp_ok tv M Bj dj W h (by omega) H64M.out hok)
            clear hok
            go_wp2_with fail
            refine (D1.out _ HIn.out).mono ?_
            rintro e w6 ⟨⟨g6, c6, rfl, hc6, hI6⟩, b6⟩
            have HI6 := Lib.hid hI6
            have HIn6 := Lib.hid (HIn.out.keep b6)
            have HR6 := Lib.hid (HI.out.step b6)
            clear hI6 b6 HIn HI c1 D1
            go_wp2_with fail
            refine (D2.out _ HIn6.out).mono ?_
            rintro e w7 ⟨⟨g7, c7, rfl, hc7, hI7⟩, b7⟩
            have hsm := same_calls (apL tv M) (apL tv M) _ _ c6 c7 w7 (HI6.out.keep b7).ints hI7.ints (by rw [apL_length]; omega)
            rw [apL_length, decide_eq_true rfl] at hsm
            have HSm := Lib.hid hsm
            have HR7 := Lib.hid (HR6.out.step b7)
            clear hI7 b7 HIn6 HR6 HI6 hsm D2
            go_wp2_with fail
            refine HSm.out.mono ?_
            rintro e w8 ⟨rfl, b8⟩
            have HR8 := Lib.hid (HR7.out.step b8)
            clear b8 HR7 HSm
            go_wp2_with fail
            go_roundw
            case rel => exact ⟨j + 1, by omega, by go_num, HR8⟩
            case measure => simp [intOf]; omega
          · have D1 := Lib.hid (fun W h => ownAp_bad tv M Bj dj W h (by omega) hok)
            have D2 := Lib.hid (fun W h => refAp_bad tv M Bj dj W h (by omega) H64M.out hok)
            unfold apNo at D1 D2
            clear hok
            go_wp2_with fail
            refine (D1.out _ HIn.out).mono ?_
            rintro e w6 ⟨rfl, b6⟩
            have HIn6 := Lib.hid (HIn.out.keep b6)
            have HR6 := Lib.hid (HI.out.step b6)
            clear b6 HIn HI c1 D1
            go_wp2_with fail
            refine (D2.out _ HIn6.out).mono ?_
            rintro e w7 ⟨rfl, rfl⟩
            have hsm := same_calls [] [] none none 0 0 w6 (Or.inl rfl) (Or.inl rfl) (by simp)
            rw [decide_eq_true rfl] at hsm
            have HSm := Lib.hid hsm
            clear HIn6 hsm D2
            go_wp2_with fail
            refine HSm.out.mono ?_
            rintro e w8 ⟨rfl, b8⟩
            have HR8 := Lib.hid (HR6.out.step b8)
            clear b8 HR6 HSm
            go_wp2_with fail
            go_roundw
            case rel => exact ⟨j + 1, by omega, by go_num, HR8⟩
            case measure => simp [intOf]; omega
        · have hj2 : j = 2 := by omega
          have k2 : (2 : Int) ≤ (j : Int) := by omega
          have HO5 := Lib.hid HI.out.out
          clear hj2 hlt2 HI
          go_wp2_with fail
          go_roundw
          case rel => exact ⟨i + 1, by omega, by go_num, HO5⟩
          case measure => simp [intOf]; omega
    · have hi3 : i = 3 := by omega
      have k1 : (3 : Int) ≤ (i : Int) := by omega
      have hs1 := own_sum L A2 c2 wr HO.out.arg.ints (by rw [Hn.out]; omega)
      rw [Hn.out] at hs1
      have D1 := Lib.hid hs1
      have D2 := Lib.hid (fun W h => refSum_calls L A2 c2 W h (by rw [Hn.out]; omega) h64)
      rw [Hn.out] at D2
      obtain ⟨s, ok, hsv⟩ : ∃ (s : Int) (ok : Bool), smV L = .tuple #[.int .i64 s, .bool ok] := ⟨_, _, rfl⟩
      rw [hsv] at D1 D2
      clear hi3 hlt hs1 hsv
      go_wp2_with fail
      refine (C1.out _).mono ?_
      rintro e w6 ⟨rfl, rfl⟩
      go_wp2_with fail
      refine (C2.out _).mono ?_
      rintro e w6 ⟨rfl, rfl⟩
      go_wp2_with fail
      refine D1.out.mono ?_
      rintro e w6 ⟨rfl, b6⟩
      have HO6 := Lib.hid (HO.out.step b6)
      clear b6 HO D1
      go_wp2_with fail
      refine (D2.out _ HO6.out.arg.ints).mono ?_
      rintro e w7 ⟨rfl, rfl⟩
      go_wp2_with fail
      go_ret
      exact ⟨rfl, HO6.out.bel⟩
end Go.Proofs.Ytediphiebamffaa
