/- The reference implementation's Decode: it returns what rdF and okF say. Condition: a length that fits memory. -/
import Derived.Test.YtnbeebndcgoalaaDoorRfE2
import Derived.Maps.AppendAt
import Derived.Deep.RegionHeld3
namespace Go.Proofs.YtnbeebndcgoalaaDoor
open Go.RowKit

theorem rdA_stuck (s : List UInt8) (k : Nat) (h : rdA s k = none) : ∀ m, k ≤ m → rdA s m = none := by
  intro m hm
  induction m with
  | zero => obtain rfl : k = 0 := by omega
            exact h
  | succ m ih =>
    by_cases hk : k = m + 1
    · subst hk; exact h
    · rw [rdA, ih (by omega)]
theorem rdF_stuck (s : List UInt8) (k : Nat) (hk : k ≤ 17) (h : rdA s k = none) : rdF s = none := by
  unfold rdF
  rw [rdA_stuck s k h 17 hk]
def rowI (l : List Int) : List Value := l.map (Value.int .i64)
theorem rowI_snoc (l : List Int) (n : Int) : rowI (l ++ [n]) = rowI l ++ [.int .i64 n] := by unfold rowI; simp
theorem rowI_get (l : List Int) (i : Nat) (h : i < l.length) : (rowI l)[i]? = some (.int .i64 (nthI l i)) := by
  unfold rowI nthI
  simp [h]
theorem rdE_none (s : ByteArray) (h : rdF s.data.toList = none) : dcE s = 10 ∧ dcV s = zeroV ∧ dcT s = ⟨#[]⟩ := by
  have h0 : rdE s = 10 := by unfold rdE; rw [h]
  have e1 : dcE s = 10 := by unfold dcE; rw [h0]; rfl
  exact ⟨e1, by unfold dcV; rw [e1]; rfl, by unfold dcT; rw [e1]; rfl⟩
theorem rdE_some (s : ByteArray) (l : List Int) (t : List UInt8) (h : rdF s.data.toList = some (l, t)) : rdE s = 0 ∧ rdV s = nthI l ∧ rdT s = ⟨t.toArray⟩ :=
  ⟨by unfold rdE; rw [h], by unfold rdV; rw [h], by unfold rdT; rw [h]⟩
theorem rdE_bad (s : ByteArray) (l : List Int) (t : List UInt8) (h : rdF s.data.toList = some (l, t)) (hc : okT (nthI l) ⟨t.toArray⟩ = false) : dcE s = 50 ∧ dcV s = zeroV ∧ dcT s = ⟨#[]⟩ := by
  obtain ⟨h0, h1, h2⟩ := rdE_some s l t h
  have e1 : dcE s = 50 := by unfold dcE; rw [if_pos h0, h1, h2, hc]; rfl
  exact ⟨e1, by unfold dcV; rw [e1]; rfl, by unfold dcT; rw [e1]; rfl⟩
theorem rdE_good (s : ByteArray) (l : List Int) (t : List UInt8) (h : rdF s.data.toList = some (l, t)) (hc : okT (nthI l) ⟨t.toArray⟩ = true) : dcE s = 0 ∧ dcV s = nthI l ∧ dcT s = ⟨t.toArray⟩ := by
  obtain ⟨h0, h1, h2⟩ := rdE_some s l t h
  have e1 : dcE s = 0 := by unfold dcE; rw [if_pos h0, h1, h2, hc]; rfl
  exact ⟨e1, by unfold dcV; rw [e1]; exact h1, by unfold dcT; rw [e1]; exact h2⟩
theorem intF_off (s : List UInt8) (p : Nat) (hp : p ≤ s.length) (h : getI s p = none) : intF s (p : Int) = (0, 0, 10) := by
  unfold intF; rw [if_neg (by omega)]; simp only [Int.toNat_natCast, h]
theorem intF_on (s : List UInt8) (p : Nat) (hp : p ≤ s.length) (n : Int) (e : Nat) (h : getI s p = some (n, e)) : intF s (p : Int) = (n, (e : Int), 0) := by
  unfold intF; rw [if_neg (by omega)]; simp only [Int.toNat_natCast, h]
theorem strF_off (s : List UInt8) (p : Nat) (hp : p ≤ s.length) (h : getS s p = none) : strF s (p : Int) = ([], 0, 10) := by
  unfold strF; rw [if_neg (by omega)]; simp only [Int.toNat_natCast, h]
theorem strF_on (s : List UInt8) (p : Nat) (hp : p ≤ s.length) (n : List UInt8) (e : Nat) (h : getS s p = some (n, e)) : strF s (p : Int) = (n, (e : Int), 0) := by
  unfold strF; rw [if_neg (by omega)]; simp only [Int.toNat_natCast, h]
def DecP (s : ByteArray) (w : World) (e : Ending) (W' : World) : Prop := e = .returned (.tuple #[.agg (factC (dcV s) (dcT s)), .int .i64 (dcE s)]) ∧ Below w.heap.size w W'

set_option maxRecDepth 100000 in
set_option maxHeartbeats 8000000 in
theorem refDecode_calls (s : ByteArray) (w : World) (hs : s.size ≤ 9223372036854775000) :
    Calls Tryd.prog 26 #[.string s] w (DecP s w) := by
  obtain ⟨i0, hi, hz0, hz1, hz2⟩ := info_parts (show (Tryd.prog.info? 3).map (fun i => (i.zero, i.size, i.bytes)) = some (some (.int .i64 0), 1, 8) from by kernel_rfl)
  have hz := factC_one zeroV ⟨#[]⟩
  have HI := Lib.hid (fun a W => refInt_all s a W hs)
  have HS := Lib.hid (fun a W => refStr_all s a W hs)
  go_enter Tryd.func26, Tryd.ntmps26
  go_upto_region 1 with (fail)
  obtain ⟨W0, hW0, f0, b0⟩ := one_row w (factC zeroV ⟨#[]⟩) 23
  rw [hW0]
  clear hW0
  have R0 := Lib.hid f0
  have B0 := Lib.hid b0
  have hw0 : w.heap.size < W0.heap.size := (Array.getElem?_eq_some_iff.1 f0).1
  clear f0 b0
  go_wp2_with fail
  go_loopw [4, 5, 6] (fun lv av kv wr => ∃ (k p : Nat) (L : List Int), k ≤ 17 ∧ kv = .int .i64 k ∧ av = .int .i64 p ∧ L.length = k ∧ p ≤ s.size ∧ Hid (rdA s.data.toList k = some (L, p)) ∧ Hid (wr.ownsRow (w.heap.size + 1) 3 1 lv L.length (rowI L)) ∧ Hid (wr.heap[w.heap.size]? = some (.cells (factC zeroV ⟨#[]⟩) 23 (0, 0))) ∧ Hid (Below w.heap.size w wr)) (fun _ _ kv _ => 17 - (intOf kv).toNat)
  case atStart => exact ⟨0, 0, [], by omega, rfl, rfl, rfl, by omega, Lib.hid rfl, Lib.hid (World.ownsRow_nil _ _ _ _), R0, B0⟩
  case round =>
    obtain ⟨k, p, L, hk, rfl, rfl, hL, hp, HA, HO, R1, B1⟩ := hrel
    have hLn : (L.length : Int) = k := by omega
    clear R0 B0
    have hp' : p ≤ s.data.toList.length := hp
    have hwr : w.heap.size < wr.heap.size := (Array.getElem?_eq_some_iff.1 R1.out).1
    by_cases hlt : k < 17
    · cases hg : getI s.data.toList p with
      | none =>
        have HIp := Lib.hid (fun W => HI.out (p : Int) W)
        rw [intF_off _ _ hp' hg] at HIp
        have HD := Lib.hid (rdE_none s (rdF_stuck _ (k + 1) (by omega) (by rw [rdA, HA.out]; simp only [hg])))
        clear hg hLn
        go_wp2_with fail
        refine (HIp.out _).mono ?_
        rintro e W2 ⟨rfl, b2⟩
        have R2 := Lib.hid (Hl.row b2 R1.out)
        have B2 := Lib.hid (B1.out.trans (b2.mono B1.out.size))
        clear b2 R1 B1 HO
        go_wp2_with (refine wpList_store_row rfl 23 _ _ rfl w.heap.size (factC zeroV ⟨#[]⟩) rfl rfl 23 _ R2.out (hiC _ _) rfl hz ?_)
        refine bodyPost_ret (v := .tuple #[.agg (factC zeroV ⟨#[]⟩), .int .i64 10]) ?_ rfl ?_
        · exact results_fact_tmp rfl _ _ w.heap.size zeroV ⟨#[]⟩ _ rfl (setRow_heap W2 w.heap.size _ _ 23 (0, 0) R2.out) rfl
        · exact ⟨by rw [HD.out.1, HD.out.2.1, HD.out.2.2], below_setRow' B2.out _ _ (Nat.le_refl _)⟩
      | some q =>
        obtain ⟨n, e⟩ := q
        have HIp := Lib.hid (fun W => HI.out (p : Int) W)
        rw [intF_on _ _ hp' n e hg] at HIp
        have HA2 := Lib.hid (show rdA s.data.toList (k + 1) = some (L ++ [n], e) by rw [rdA, HA.out]; simp only [hg])
        have he := (rdA_some _ _ _ _ HA2.out).2.1
        have he' : e ≤ s.size := he
        have he2 : (e : Int) ≤ 9223372036854775000 := by omega
        have Hl2 : (L ++ [n]).length = k + 1 := by simp [hL]
        clear hg he
        go_wp2_with fail
        refine (HIp.out _).mono ?_
        rintro e1 W2 ⟨rfl, b2⟩
        have R2 := Lib.hid (Hl.row b2 R1.out)
        have B2 := Lib.hid (B1.out.trans (b2.mono B1.out.size))
        have HO2 := Lib.hid (World.ownsRow.kept HO.out (grown_of_below b2) (Classical.em _))
        have hw2 : w.heap.size < W2.heap.size := (Array.getElem?_eq_some_iff.1 R2.out).1
        clear b2 R1 B1 HO
        go_wp2_with (at_builtin; refine wpList_append_own _ rfl _ _ 58 rfl (w.heap.size + 1) 3 i0 (.int .i64 0) 1 8 Tryd.underlying58 hi hz0 hz1 hz2 rfl (by decide) _ _ _ rfl (HO2.out.alloc _) ⟨W2.heap.size, 0, none⟩ 1 1 [.int .i64 n] rfl rfl ?c1 ?c2 ?c3 ?c4 ?c5 ?_)
        case c1 => exact cell_one_new _ _ _
        case c2 => simp [Value.oneCell']
        case c3 => unfold maxLen; omega
        case c4 => omega
        case c5 => simp; omega
        intro v' W3 hown' hgrow _
        have R3 := Lib.hid (grown_row hgrow (row_aft _ _ _ _ R2.out) (fun e => by have := (HO2.out.lt _ e).1; omega))
        have B3 := Lib.hid ((B2.out.alloc (by omega) _).grown hgrow (by simp; omega) (fun q e => by have := (HO2.out.lt q e).1; omega))
        have HO3 : Hid (W3.ownsRow (w.heap.size + 1) 3 1 v' (L ++ [n]).length (rowI (L ++ [n]))) := Lib.hid (by
          rw [rowI_snoc, Hl2]; exact hown')
        clear hown' hgrow R2 B2 HO2
        go_wp2_with fail
        go_roundw
        case rel => exact ⟨k + 1, e, L ++ [n], by omega, by go_num, rfl, Hl2, he', HA2, HO3, R3, B3⟩
        case measure => simp [intOf]; omega
    · obtain rfl : k = 17 := by omega
      rw [show ((17 : Nat) : Int) = 17 from rfl]
      cases hg : getS s.data.toList p with
      | none =>
        have HSp := Lib.hid (fun W => HS.out (p : Int) W)
        rw [strF_off _ _ hp' hg] at HSp
        have HD := Lib.hid (rdE_none s (by unfold rdF; rw [HA.out]; simp only [hg]))
        clear hg hLn
        go_wp2_with fail
        refine (HSp.out _).mono ?_
        rintro e W2 ⟨rfl, b2⟩
        have R2 := Lib.hid (Hl.row b2 R1.out)
        have B2 := Lib.hid (B1.out.trans (b2.mono B1.out.size))
        clear b2 R1 B1 HO
        go_wp2_with (refine wpList_store_row rfl 23 _ _ rfl w.heap.size (factC zeroV ⟨#[]⟩) rfl rfl 23 _ R2.out (hiC _ _) rfl hz ?_)
        refine bodyPost_ret (v := .tuple #[.agg (factC zeroV ⟨#[]⟩), .int .i64 10]) ?_ rfl ?_
        · exact results_fact_tmp rfl _ _ w.heap.size zeroV ⟨#[]⟩ _ rfl (setRow_heap W2 w.heap.size _ _ 23 (0, 0) R2.out) rfl
        · exact ⟨by rw [HD.out.1, HD.out.2.1, HD.out.2.2], below_setRow' B2.out _ _ (Nat.le_refl _)⟩
      | some q =>
        obtain ⟨t, e⟩ := q
        have HSp := Lib.hid (fun W => HS.out (p : Int) W)
        rw [strF_on _ _ hp' t e hg] at HSp
        by_cases hlt2 : e < s.size
        · have hlt3 : (e : Int) < (s.size : Int) := by omega
          have HD := Lib.hid (rdE_none s (by unfold rdF; rw [HA.out]; simp only [hg]; rw [if_pos (show e < s.data.toList.length from hlt2)]))
          clear hg hLn hlt2
          go_wp2_with fail
          refine (HSp.out _).mono ?_
          rintro e W2 ⟨rfl, b2⟩
          have R2 := Lib.hid (Hl.row b2 R1.out)
          have B2 := Lib.hid (B1.out.trans (b2.mono B1.out.size))
          clear b2 R1 B1 HO
          go_wp2_with (refine wpList_store_row rfl 23 _ _ rfl w.heap.size (factC zeroV ⟨#[]⟩) rfl rfl 23 _ R2.out (hiC _ _) rfl hz ?_)
          refine bodyPost_ret (v := .tuple #[.agg (factC zeroV ⟨#[]⟩), .int .i64 10]) ?_ rfl ?_
          · exact results_fact_tmp rfl _ _ w.heap.size zeroV ⟨#[]⟩ _ rfl (setRow_heap W2 w.heap.size _ _ 23 (0, 0) R2.out) rfl
          · exact ⟨by rw [HD.out.1, HD.out.2.1, HD.out.2.2], below_setRow' B2.out _ _ (Nat.le_refl _)⟩
        · have HF := Lib.hid (show rdF s.data.toList = some (L, t) by unfold rdF; rw [HA.out]; simp only [hg]; rw [if_neg (show ¬ e < s.data.toList.length from hlt2)])
          have hlt3 : ¬ (e : Int) < (s.size : Int) := by omega
          clear hg hLn
          go_wp2_with fail
          refine (HSp.out _).mono ?_
          rintro e1 W2 ⟨rfl, b2⟩
          have R2 := Lib.hid (Hl.row b2 R1.out)
          have B2 := Lib.hid (B1.out.trans (b2.mono B1.out.size))
          have HO2 := Lib.hid (World.ownsRow.kept HO.out (grown_of_below b2) (Classical.em _))
          clear b2 R1 B1 HO
          go_wp2_with fail
          clear hlt2
          have HO2c := HO2.out
          rw [hL] at HO2c
          obtain ⟨g, cap, rfl⟩ := ownsRow_succ HO2c
          have hcells : ∀ i, i < 17 → W2.cell? ⟨g, i, none⟩ = some (.int .i64 (nthI L i)) := fun i hi => by
            have h2 := World.ownsRow.cells HO2c rfl i _ (rowI_get L i (by omega))
            have e : Addr.add ⟨g, 0, none⟩ i = ⟨g, 0 + i, none⟩ := by unfold Addr.add; split <;> simp_all
            rw [e, Nat.zero_add] at h2
            exact h2
          have d0 := hcells 0 (by decide)
          have d1 := hcells 1 (by decide)
          have d2 := hcells 2 (by decide)
          have d3 := hcells 3 (by decide)
          have d4 := hcells 4 (by decide)
          have d5 := hcells 5 (by decide)
          have d6 := hcells 6 (by decide)
          have d7 := hcells 7 (by decide)
          have d8 := hcells 8 (by decide)
          have d9 := hcells 9 (by decide)
          have d10 := hcells 10 (by decide)
          have d11 := hcells 11 (by decide)
          have d12 := hcells 12 (by decide)
          have d13 := hcells 13 (by decide)
          have d14 := hcells 14 (by decide)
          have d15 := hcells 15 (by decide)
          have d16 := hcells 16 (by decide)
          have hgl : g < W2.heap.size := World.block_lt_of_cell? W2 _ d0
          clear hcells HO2 HO2c
          have hone := factC_one (nthI L) ⟨t.toArray⟩

          clear hL HA HSp hp hp'
          have hne : ∀ i, i < 17 → True := fun _ _ => trivial
          clear hne
          go_region_held3 (fun w' => w'.cell? ⟨g, 0, none⟩ = some (.int .i64 (nthI L 0)) ∧ w'.cell? ⟨g, 1, none⟩ = some (.int .i64 (nthI L 1)) ∧ w'.cell? ⟨g, 2, none⟩ = some (.int .i64 (nthI L 2)) ∧ w'.cell? ⟨g, 3, none⟩ = some (.int .i64 (nthI L 3)) ∧ w'.cell? ⟨g, 4, none⟩ = some (.int .i64 (nthI L 4)) ∧ w'.cell? ⟨g, 5, none⟩ = some (.int .i64 (nthI L 5)) ∧ w'.cell? ⟨g, 6, none⟩ = some (.int .i64 (nthI L 6)) ∧ w'.cell? ⟨g, 7, none⟩ = some (.int .i64 (nthI L 7)) ∧ w'.cell? ⟨g, 8, none⟩ = some (.int .i64 (nthI L 8)) ∧ w'.cell? ⟨g, 9, none⟩ = some (.int .i64 (nthI L 9)) ∧ w'.cell? ⟨g, 10, none⟩ = some (.int .i64 (nthI L 10)) ∧ w'.cell? ⟨g, 11, none⟩ = some (.int .i64 (nthI L 11)) ∧ w'.cell? ⟨g, 12, none⟩ = some (.int .i64 (nthI L 12)) ∧ w'.cell? ⟨g, 13, none⟩ = some (.int .i64 (nthI L 13)) ∧ w'.cell? ⟨g, 14, none⟩ = some (.int .i64 (nthI L 14)) ∧ w'.cell? ⟨g, 15, none⟩ = some (.int .i64 (nthI L 15)) ∧ w'.cell? ⟨g, 16, none⟩ = some (.int .i64 (nthI L 16))) (go_keep) (fail)
          clear d0 d1 d2 d3 d4 d5 d6 d7 d8 d9 d10 d11 d12 d13 d14 d15 d16
          obtain ⟨W3, hW3, R3, G3, B3⟩ : ∃ W3, (W2.alloc (.cells (factC (nthI L) ⟨t.toArray⟩) 23)).drew = W3 ∧ Hid (W3.heap[w.heap.size]? = some (.cells (factC zeroV ⟨#[]⟩) 23 (0, 0))) ∧ Hid (W3.heap[W2.heap.size]? = some (.cells (factC (nthI L) ⟨t.toArray⟩) 23 (0, 0))) ∧ Hid (Below w.heap.size w W3) :=
            ⟨_, rfl, Lib.hid (row_aft _ _ _ _ R2.out), Lib.hid (heap_new W2 _), Lib.hid (Below.drew (B2.out.alloc B2.out.size _))⟩
          rw [hW3]
          clear hW3 R2 B2
          generalize W2.heap.size = b at *
          rcases hc : okT (nthI L) ⟨t.toArray⟩ with _ | _
          · have HV := Lib.hid (fun W => refValid_eq (nthI L) ⟨t.toArray⟩ false hc W)
            have HD := Lib.hid (rdE_bad s L t HF.out hc)
            clear hc HF
            go_wp2_with (refine wpList_load_fact rfl _ rfl b rfl (nthI L) ⟨t.toArray⟩ G3.out ?_)
            refine (HV.out _).mono ?_
            rintro e2 W4 ⟨rfl, b4⟩
            have R4 := Lib.hid (Hl.row b4 R3.out)
            have B4 := Lib.hid (B3.out.trans (b4.mono B3.out.size))
            clear b4 R3 B3 G3
            go_wp2_with (refine wpList_store_row rfl 23 _ _ rfl w.heap.size (factC zeroV ⟨#[]⟩) rfl rfl 23 _ R4.out (hiC _ _) rfl hz ?_)
            refine bodyPost_ret (v := .tuple #[.agg (factC zeroV ⟨#[]⟩), .int .i64 50]) ?_ rfl ?_
            · exact results_fact_tmp rfl _ _ w.heap.size zeroV ⟨#[]⟩ _ rfl (setRow_heap W4 w.heap.size _ _ 23 (0, 0) R4.out) rfl
            · exact ⟨by rw [HD.out.1, HD.out.2.1, HD.out.2.2], below_setRow' B4.out _ _ (Nat.le_refl _)⟩
          · have HV := Lib.hid (fun W => refValid_eq (nthI L) ⟨t.toArray⟩ true hc W)
            have HD := Lib.hid (rdE_good s L t HF.out hc)
            clear hc HF
            go_wp2_with (refine wpList_load_fact rfl _ rfl b rfl (nthI L) ⟨t.toArray⟩ G3.out ?_)
            refine (HV.out _).mono ?_
            rintro e2 W4 ⟨rfl, b4⟩
            have R4 := Lib.hid (Hl.row b4 R3.out)
            have G4 := Lib.hid (Hl.row b4 G3.out)
            have B4 := Lib.hid (B3.out.trans (b4.mono B3.out.size))
            clear b4 R3 B3 G3
            go_wp2_with (first
              | (refine wpList_load_fact rfl _ rfl b rfl (nthI L) ⟨t.toArray⟩ G4.out ?_)
              | (refine wpList_store_row rfl 23 _ _ rfl w.heap.size (factC (nthI L) ⟨t.toArray⟩) rfl rfl 23 _ R4.out (hiC _ _) rfl hone ?_))
            refine bodyPost_ret (v := .tuple #[.agg (factC (nthI L) ⟨t.toArray⟩), .int .i64 0]) ?_ rfl ?_
            · exact results_fact_tmp rfl _ _ w.heap.size (nthI L) ⟨t.toArray⟩ _ rfl (setRow_heap W4 w.heap.size _ _ 23 (0, 0) R4.out) rfl
            · exact ⟨by rw [HD.out.1, HD.out.2.1, HD.out.2.2], below_setRow' B4.out _ _ (Nat.le_refl _)⟩
end Go.Proofs.YtnbeebndcgoalaaDoor
