/- The contract of package fact's Valid. -/
import Derived.Test.YtnndnjnpkjpkpaaGreatDoorFLim
import Derived.Test.YtnndnjnpkjpkpaaGreatDoorFMea
namespace Go.Proofs.YtnndnjnpkjpkpaaGreatDoor
open Go.RowKit
theorem MapAt.keep {w w' : World} {b : Nat} {l : List (Nat × Int × Int)} (h : MapAt w b l) (hb : Hl w w') : MapAt w' b l := by
  obtain ⟨es, c, h1, h2⟩ := h
  exact ⟨es, c, hb.row h1, h2⟩
theorem InR_succ (v : Nat → Int) (n : Int) (k : Nat) : InR v n (k + 1) ↔ InR v n k ∧ inB (msr v n k) (rgOf (rgL (v 0)) k).1 (rgOf (rgL (v 0)) k).2 = true := by
  unfold InR inB
  rw [decide_eq_true_eq]
  constructor
  · intro h; exact ⟨fun i hi => h i (by omega), h k (by omega)⟩
  · rintro ⟨h1, h2⟩ i hi
    by_cases e : i = k
    · subst e; exact h2
    · exact h1 i (by omega)
theorem holds_eq (a b n : Int) (c : Bool) (h : inB n a b = c) (w : World) : Calls Tryz.prog 79 #[.agg #[.int .i64 a, .int .i64 b], .int .i64 n] w fun e W' => e = .returned (.bool c) ∧ Below w.heap.size w W' := h ▸ holds_calls a b n w
theorem hiSpan2 (a b : Int) : (Tryz.prog.info? 112).map (·.size) = some (#[.int .i64 a, .int .i64 b] : Array Value).size := hiSpan
set_option maxRecDepth 100000 in
set_option maxHeartbeats 4000000 in
theorem Valid_calls (v : Nat → Int) (t : ByteArray) (w : World) : Calls Tryz.prog 62 #[.agg (factC v t)] w fun e W' => e = .returned (.bool (okT v t)) ∧ Below w.heap.size w W' := by
  by_cases hk : Known (v 0)
  · by_cases hv : inB (v 2) 1 1000 = true
    · have HO : Hid (∀ b : Bool, (InR v (t.size : Int) 18 → b = decide (v 0 = 3 → v 11 < v 12)) → (¬ InR v (t.size : Int) 18 → b = false) → b = okT v t) := Lib.hid (by
        intro b h1 h2
        unfold inB at hv
        rw [decide_eq_true_eq] at hv
        unfold okT okB okF
        by_cases hI : InR v (t.size : Int) 18
        · rw [h1 hI]; exact decide_eq_decide.2 ⟨fun h => ⟨hk, hv, hI, h⟩, fun h => h.2.2.2⟩
        · rw [h2 hI]; exact (decide_eq_false fun h => hI h.2.2.1).symm)
      have HL := Lib.hid (fun W => limits_calls (v 0) W hk)
      have HM := Lib.hid (fun W => measures_calls v t W)
      have HV := Lib.hid hv
      clear hk hv
      go_enter Tryz.func62, Tryz.ntmps62
      go_upto_region 1 with (fail)
      obtain ⟨W0, hW0, f0, b0⟩ := one_row w (factC v t) 40
      rw [hW0]
      clear hW0
      have c0 : W0.cell? ⟨w.heap.size, 0, none⟩ = some (.int .i64 (v 0)) := (row18 f0).1
      have F0 := Lib.hid f0
      have B0 := Lib.hid b0
      clear f0 b0
      go_wp2_with fail
      refine (HL.out _).mono ?_
      rintro e W1 ⟨rfl, b1, m1⟩
      have F1 := Lib.hid (Hl.row b1 F0.out)
      have M1 := Lib.hid m1
      have B1 := Lib.hid (B0.out.trans (b1.mono B0.out.size))
      clear m1 b1 c0 F0 B0
      generalize W0.heap.size + 5 = M at *
      go_upto_region 3 with (fail)
      obtain ⟨W2, hW2, F2, M2, S2, B2⟩ : ∃ W2, W1.alloc (.cells #[.int .i64 1, .int .i64 1000] 112) = W2 ∧ Hid (W2.heap[w.heap.size]? = some (.cells (factC v t) 40 (0, 0))) ∧ Hid (MapAt W2 M (rgL (v 0))) ∧ Hid (W2.heap[W1.heap.size]? = some (.cells #[.int .i64 1, .int .i64 1000] 112 (0, 0))) ∧ Hid (Below w.heap.size w W2) :=
        ⟨_, rfl, Lib.hid (row_aft _ _ _ _ F1.out), Lib.hid (M1.out.keep ((Below.refl _ _).alloc (Nat.le_refl _) _)), Lib.hid (heap_new W1 _), Lib.hid (B1.out.alloc B1.out.size _)⟩
      rw [hW2]
      clear hW2 F1 M1 B1
      have c2 : W2.cell? ⟨w.heap.size, 2, none⟩ = some (.int .i64 (v 2)) := (row18 F2.out).2.2.1
      have hnil := fun W => run_eql_map_nil W 109 _ _ (some M) uMap
      have s0 : W2.cell? ⟨W1.heap.size, 0, none⟩ = some (.int .i64 1) := by rw [cell_of_row _ _ _ _ _ _ S2.out]; rfl
      have s1 : W2.cell? ⟨W1.heap.size, 1, none⟩ = some (.int .i64 1000) := by rw [cell_of_row _ _ _ _ _ _ S2.out]; rfl
      go_wp2_with fail
      refine (holds_eq 1 1000 (v 2) true HV.out _).mono ?_
      rintro e W3 ⟨rfl, b3⟩
      have F3 := Lib.hid (Hl.row b3 F2.out)
      have M3 := Lib.hid (M2.out.keep b3)
      have B3 := Lib.hid (B2.out.trans (b3.mono B2.out.size))
      clear b3 F2 M2 B2 S2 s0 s1 c2 hnil
      generalize W1.heap.size = X at *
      go_wp2_with (refine wpList_load_row rfl 40 _ rfl w.heap.size rfl _ _ _ _ F3.out Tryz.underlying40 rfl (hiC _ _) ?_)
      refine (HM.out _).mono ?_
      rintro e W4 ⟨rfl, b4⟩
      have F4 := Lib.hid (Hl.row b4 F3.out)
      have M4 := Lib.hid (M3.out.keep b4)
      have B4 := Lib.hid (B3.out.trans (b4.mono B3.out.size))
      clear b4 F3 M3 B3
      generalize (t.size : Int) = n at *
      go_wp2_with fail
      go_loopw [22] (fun kv wr => ∃ k : Nat, k ≤ 18 ∧ kv = .int .i64 k ∧ Hid (InR v n k) ∧ Hid (wr.heap[w.heap.size]? = some (.cells (factC v t) 40 (0, 0))) ∧ Hid (MapAt wr M (rgL (v 0))) ∧ Hid (Below w.heap.size w wr)) (fun kv _ => 18 - (intOf kv).toNat)
      case atStart => exact ⟨0, by omega, rfl, Lib.hid (fun i hi => absurd hi (by omega)), F4, M4, B4⟩
      case round =>
        obtain ⟨k, hk, rfl, HI, F5, M5, B5⟩ := hrel
        clear F4 M4 B4
        by_cases hlt : k < 18
        · have hix := fun W => arr18_at (msr v n) k hlt W
          have hlook := run_look wr M (rgL (v 0)) k M5.out
          have HS := Lib.hid (InR_succ v n k)
          generalize (rgOf (rgL (v 0)) k).1 = lo at *
          generalize (rgOf (rgL (v 0)) k).2 = hi at *
          generalize msr v n k = x at *
          rcases hc : inB x lo hi with _ | _
          · have HC := Lib.hid hc
            clear hc
            go_wp2_with fail
            refine (holds_eq lo hi x false HC.out _).mono ?_
            rintro e W6 ⟨rfl, b6⟩
            go_wp2_with fail
            go_ret
            have hno : ¬ InR v n 18 := fun h => by
              have h1 : InR v n (k + 1) := fun i hi => h i (by omega)
              have h2 := (HS.out.1 h1).2
              rw [HC.out] at h2
              cases h2
            exact ⟨by rw [← HO.out false (fun h => absurd h hno) (fun _ => rfl)]; rfl, B5.out.trans (b6.mono B5.out.size)⟩
          · have HC := Lib.hid hc
            clear hc
            go_wp2_with fail
            refine (holds_eq lo hi x true HC.out _).mono ?_
            rintro e W6 ⟨rfl, b6⟩
            have F6 := Lib.hid (Hl.row b6 F5.out)
            have M6 := Lib.hid (M5.out.keep b6)
            have B6 := Lib.hid (B5.out.trans (b6.mono B5.out.size))
            clear b6 F5 M5 B5 hlook
            go_wp2_with fail
            go_roundw
            case rel => exact ⟨k + 1, by omega, by go_num, Lib.hid (HS.out.2 ⟨HI.out, HC.out⟩), F6, M6, B6⟩
            case measure => simp [intOf]; omega
        · obtain rfl : k = 18 := by omega
          rw [show ((18 : Nat) : Int) = 18 from rfl]
          obtain ⟨d0, -, -, -, -, -, -, -, -, -, -, d11, d12, -⟩ := row18 F5.out
          by_cases h3 : v 0 = 3
          · have HE := Lib.hid (HO.out (decide (v 11 < v 12)) (fun _ => decide_eq_decide.2 ⟨fun h _ => h, fun h => h h3⟩) (fun h => absurd HI.out h))
            have hb : (v 0 != 3) = false := by rw [h3]; rfl
            have H3 := Lib.hid h3
            clear h3
            generalize v 0 = k0 at *
            generalize v 11 = k11 at *
            generalize v 12 = k12 at *
            go_wp2_with fail
            go_ret
            exact ⟨by rw [← HE.out]; rfl, B5.out⟩
          · have HE := Lib.hid (HO.out true (fun _ => (decide_eq_true (fun h => absurd h h3)).symm) (fun h => absurd HI.out h))
            have hb : (v 0 != 3) = true := by simpa using h3
            clear h3
            generalize v 0 = k0 at *
            go_wp2_with fail
            go_ret
            exact ⟨by rw [← HE.out]; rfl, B5.out⟩
    · have HE : Hid (okT v t = false) := Lib.hid (decide_eq_false fun h => hv (decide_eq_true h.2.1))
      have HL := Lib.hid (fun W => limits_calls (v 0) W hk)
      have HV := Lib.hid (show inB (v 2) 1 1000 = false by simpa using hv)
      clear hk hv
      go_enter Tryz.func62, Tryz.ntmps62
      go_upto_region 1 with (fail)
      obtain ⟨W0, hW0, f0, b0⟩ := one_row w (factC v t) 40
      rw [hW0]
      clear hW0
      have c0 : W0.cell? ⟨w.heap.size, 0, none⟩ = some (.int .i64 (v 0)) := (row18 f0).1
      have F0 := Lib.hid f0
      have B0 := Lib.hid b0
      clear f0 b0
      go_wp2_with fail
      refine (HL.out _).mono ?_
      rintro e W1 ⟨rfl, b1, m1⟩
      have F1 := Lib.hid (Hl.row b1 F0.out)
      have M1 := Lib.hid m1
      have B1 := Lib.hid (B0.out.trans (b1.mono B0.out.size))
      clear m1 b1 c0 F0 B0
      generalize W0.heap.size + 5 = M at *
      go_upto_region 3 with (fail)
      obtain ⟨W2, hW2, F2, M2, S2, B2⟩ : ∃ W2, W1.alloc (.cells #[.int .i64 1, .int .i64 1000] 112) = W2 ∧ Hid (W2.heap[w.heap.size]? = some (.cells (factC v t) 40 (0, 0))) ∧ Hid (MapAt W2 M (rgL (v 0))) ∧ Hid (W2.heap[W1.heap.size]? = some (.cells #[.int .i64 1, .int .i64 1000] 112 (0, 0))) ∧ Hid (Below w.heap.size w W2) :=
        ⟨_, rfl, Lib.hid (row_aft _ _ _ _ F1.out), Lib.hid (M1.out.keep ((Below.refl _ _).alloc (Nat.le_refl _) _)), Lib.hid (heap_new W1 _), Lib.hid (B1.out.alloc B1.out.size _)⟩
      rw [hW2]
      clear hW2 F1 M1 B1
      have c2 : W2.cell? ⟨w.heap.size, 2, none⟩ = some (.int .i64 (v 2)) := (row18 F2.out).2.2.1
      have hnil := fun W => run_eql_map_nil W 109 _ _ (some M) uMap
      have s0 : W2.cell? ⟨W1.heap.size, 0, none⟩ = some (.int .i64 1) := by rw [cell_of_row _ _ _ _ _ _ S2.out]; rfl
      have s1 : W2.cell? ⟨W1.heap.size, 1, none⟩ = some (.int .i64 1000) := by rw [cell_of_row _ _ _ _ _ _ S2.out]; rfl
      go_wp2_with fail
      refine (holds_eq 1 1000 (v 2) false HV.out _).mono ?_
      rintro e W3 ⟨rfl, b3⟩
      go_wp2_with fail
      go_ret
      exact ⟨by rw [HE.out]; rfl, B2.out.trans (b3.mono B2.out.size)⟩
  · have HE : Hid (okT v t = false) := Lib.hid (decide_eq_false fun h => hk h.1)
    have HL := Lib.hid (fun W => limits_not (v 0) W hk)
    clear hk
    go_enter Tryz.func62, Tryz.ntmps62
    go_upto_region 1 with (fail)
    obtain ⟨W0, hW0, f0, b0⟩ := one_row w (factC v t) 40
    rw [hW0]
    clear hW0
    have c0 : W0.cell? ⟨w.heap.size, 0, none⟩ = some (.int .i64 (v 0)) := (row18 f0).1
    have F0 := Lib.hid f0
    have B0 := Lib.hid b0
    clear f0 b0
    go_wp2_with fail
    refine (HL.out _).mono ?_
    rintro e W1 ⟨rfl, b1⟩
    have B1 := Lib.hid (B0.out.trans (b1.mono B0.out.size))
    clear b1 c0 F0 B0
    have hnil := fun W => run_eql_map_nil W 109 _ _ none uMap
    go_wp2_with fail
    go_ret
    exact ⟨by rw [HE.out]; rfl, B1.out.trans ((Below.refl _ _).alloc B1.out.size _ |>.mono (by omega))⟩

end Go.Proofs.YtnndnjnpkjpkpaaGreatDoor
