/- The walk of DigestProofAccepted: for every list and index it returns true, and nothing that was there has changed. Condition: the table of constants reads as the program lays it. -/
import Derived.Test.YtinioifhbafngaaDoorApp
namespace Go.Proofs.YtinioifhbafngaaDoor
open Go.RowKit

theorem prf_le60 (l : List Bs) (k : Nat) : ∀ x ∈ proofF shaF l k, x.length ≤ 60 := fun x hx => by rw [proofF_32 shaF shaF_length l k x hx]; omega
theorem verB_proof (l : List Bs) (k : Nat) (hk : k < l.length) : verB (rootF shaF l) (l.length : Int) (k : Int) (l.getD k []) (proofF shaF l k) = true := by
  have hg : l[k]? = some (l.getD k []) := by rw [List.getD_eq_getElem?_getD, List.getElem?_eq_getElem hk]; rfl
  unfold verB
  rw [decide_eq_true_iff, Int.toNat_natCast, Int.toNat_natCast, val_proof shaF l k _ hg]
  exact ⟨by omega, by omega, proofF_32 shaF shaF_length l k, rfl, rfl⟩
/-- A proof of another length is refused. -/
theorem verB_other (l : List Bs) (k : Nat) (hk : k < l.length) (p : List Bs) (hp : p.length ≠ (proofF shaF l k).length) : verB (rootF shaF l) (l.length : Int) (k : Int) (l.getD k []) p = false := by
  have hg : l[k]? = some (l.getD k []) := by rw [List.getD_eq_getElem?_getD, List.getElem?_eq_getElem hk]; rfl
  unfold verB
  rw [decide_eq_false_iff_not, Int.toNat_natCast, Int.toNat_natCast]
  rintro ⟨_, _, _, h, _⟩
  have h2 := val_ok_length shaF p.reverse (proofF shaF l k).reverse l.length k _ _ h (by rw [val_proof shaF l k _ hg])
  rw [List.length_reverse, List.length_reverse] at h2
  exact hp h2
theorem verB_out (root : Bs) (n i : Int) (s : Bs) (p : List Bs) (h : ¬ (0 ≤ i ∧ i < n)) : verB root n i s p = false := by
  unfold verB
  rw [decide_eq_false_iff_not]
  exact fun h' => h ⟨h'.1, h'.2.1⟩
theorem proofF_short (l : List Bs) (k : Nat) : (proofF shaF l k).length ≤ binN l.length := proofF_length shaF l k _ (Nat.le_of_lt (binN_lt _))
theorem HS.cell {w : World} {A : Option Addr} {l : List Bs} (h : HS w A l) {g : Nat} (hA : A = some ⟨g, 0, none⟩) (k : Nat) (hk : k < l.length) : w.cell? ⟨g, k, none⟩ = some (.string ⟨(l.getD k []).toArray⟩) := by
  subst hA
  rcases Hid.out h with h' | ⟨b, o, he, hs⟩
  · subst h'; simp at hk
  · have he2 := Option.some.inj he
    injection he2 with h1 h2 h3
    subst h1 h2
    have := hs k hk
    rwa [Nat.zero_add] at this

theorem Strs.dropped {w : World} {A : Option Addr} {g : Nat} {l : List Bs} (h : Strs w A l) (hA : A = some ⟨g, 0, none⟩) (k : Nat) : Strs w (some ⟨g, k, none⟩) (l.drop k) := by
  subst hA
  rcases h with h' | ⟨b, o, he, hs⟩
  · subst h'; exact Or.inl (by simp)
  · have he2 := Option.some.inj he
    injection he2 with h1 h2 h3
    subst h1 h2
    have := (StrsAt.drop hs k).strs
    rwa [Nat.zero_add] at this
theorem RowS.drew {w : World} {base : Nat} {v : Value} {l : List Bs} (h : RowS w base v l) : RowS w.drew base v l := h
theorem Strs.drew {w : World} {A : Option Addr} {l : List Bs} (h : Strs w A l) : Strs w.drew A l := h
theorem Strs.grown {w w' : World} {b : Nat} {l : List Bs} {row : Option Nat} (h : Strs w (some ⟨b, 0, none⟩) l) (hg : w.grownBy w' row) (hne : some b ≠ row) : Strs w' (some ⟨b, 0, none⟩) l := by
  rcases h with h | ⟨b', o, he, hs⟩
  · exact Or.inl h
  · have he2 := Option.some.inj he
    injection he2 with h1 h2 h3
    subst h1 h2
    refine Or.inr ⟨b, 0, rfl, fun i hi => ?_⟩
    have hb : b < w.heap.size := lt_of_cell (hs i hi)
    exact (World.cell?_of_block (w := w) (w' := w') (a := ⟨b, 0 + i, none⟩) (hg.block b hb hne)).trans (hs i hi)

set_option maxRecDepth 100000 in
set_option maxHeartbeats 4000000 in
theorem pra_walk (A : Option Addr) (l : List Bs) (cap : Nat) (m : Int) (w : World) (hK : Konst w) (_hc : l.length ≤ cap) (hl : l.length ≤ 9223372036854775807) (hs : Strs w A l) (hx : ∀ x ∈ l, x.length ≤ 9223372036854775807)
    (_m1 : -9223372036854775808 ≤ m) (_m2 : m ≤ 9223372036854775807) :
    Calls Tryd.prog 5 #[.slice A l.length cap, .int .i64 m] w fun e W' => e = .returned (.bool true) ∧ Below w.heap.size w W' := by
  have k0 : HK w := Lib.hid hK
  have s0 : HS w A l := Lib.hid hs
  have Hx := Lib.hid hx
  clear hK hs hx
  go_enter Tryd.func5, Tryd.ntmps5
  go_wp2_with fail
  refine (sane_calls _ (Hid.out k0)).mono ?_
  rintro e w1 ⟨rfl, b1⟩
  have a1 := (Hld.refl w).step b1
  have k1 := k0.keep b1
  have s1 := s0.keep b1
  go_wp2_with fail
  refine (few_calls l A cap 40 _ (by omega) (Hid.out s1) Hx.out hl).mono ?_
  rintro e w2 ⟨⟨v, rfl, hv⟩, b2⟩
  have a2 := a1.step b2
  have k2 := k1.keep b2
  have h40 := fewL_length l 40
  have H60 := Lib.hid (fewL_60 l 40)
  generalize fewL l 40 = L at *
  obtain ⟨A2, c2, rfl, hc2, t2, hA2⟩ := hv.lies
  clear hv s0 s1
  go_wp2_with fail
  refine (Root_all L A2 c2 _ k2 (by omega) hc2 t2 H60.out).mono ?_
  rintro e w3 ⟨rfl, b3⟩
  have a3 := a2.step b3
  have k3 := k2.keep b3
  have t3 := t2.keep b3
  have HL : Hid (∀ k : Nat, k < L.length → verB (rootF shaF L) (L.length : Int) (k : Int) (L.getD k []) (proofF shaF L k) = true) := Lib.hid fun k h => verB_proof L k h
  have HO : Hid (∀ k : Nat, k < L.length → ∀ p : List Bs, p.length ≠ (proofF shaF L k).length → verB (rootF shaF L) (L.length : Int) (k : Int) (L.getD k []) p = false) := Lib.hid fun k h p hp => verB_other L k h p hp
  have HShort : Hid (∀ k : Nat, (proofF shaF L k).length ≤ binN L.length) := Lib.hid fun k => proofF_short L k
  have HB := Lib.hid (binN_le L.length)
  have HR := Lib.hid (root_length L)
  obtain ⟨R, hR⟩ : ∃ R, rootF shaF L = R := ⟨_, rfl⟩
  rw [hR] at HL HR HO
  rw [hR]
  clear hR
  obtain ⟨n, hn⟩ : ∃ n, L.length = n := ⟨_, rfl⟩
  rw [hn] at HL HO HShort HB h40 hc2 hA2
  rw [hn]
  have Hn := Lib.hid hn
  clear hn
  go_wp2_with fail
  go_loopw [7] (fun kv wr => ∃ k : Nat, k ≤ n ∧ kv = .int .i64 k ∧ HK wr ∧ HS wr A2 L ∧ Hld w wr) (fun kv _ => n - (intOf kv).toNat)
  case atStart => exact ⟨0, by omega, rfl, k3, t3, a3⟩
  case round =>
    obtain ⟨k, hk, rfl, kR, tR, aR⟩ := hrel
    by_cases hlt : k < n
    · have hcall := Proof_in L A2 c2 k wr (Hid.out kR) (by rw [Hn.out]; omega) (by rw [Hn.out]; exact hc2) (Hid.out tR) (fun x hm => by have := H60.out x hm; omega) (by rw [Hn.out]; exact hlt)
      rw [Hn.out] at hcall
      have Hcall := Lib.hid hcall
      clear hcall
      have hsh := HShort.out k
      have hbl := HB.out
      have HV := Lib.hid (HL.out k hlt)
      have HX60 := Lib.hid (prf_le60 L k)
      have hA2' : ∃ g, A2 = some ⟨g, 0, none⟩ := by
        rcases hA2 with ⟨_, _, h⟩ | h
        · omega
        · exact h
      obtain ⟨g, hg⟩ := hA2'
      have HC : Hid (∀ w', HS w' A2 L → w'.cell? ⟨g, k, none⟩ = some (.string ⟨(L.getD k []).toArray⟩)) := Lib.hid fun w' h => h.cell hg k (by rw [Hn.out]; exact hlt)
      have hS60 : (L.getD k []).length ≤ 60 := H60.out _ (by
        have hkl : k < L.length := by rw [Hn.out]; exact hlt
        rw [List.getD_eq_getElem?_getD, List.getElem?_eq_getElem hkl]; exact List.getElem_mem _)
      subst hg
      clear HL HO HShort
      generalize proofF shaF L k = X at *
      generalize L.getD k [] = sx at *
      have q1 : (k : Int) < (n : Int) := by omega
      go_wp2_with fail
      refine Hcall.out.mono ?_
      rintro e w4 ⟨⟨v4, rfl, hv4⟩, b4⟩
      have a4 := aR.step b4
      have k4 := kR.keep b4
      have t4 := tR.keep b4
      obtain ⟨A4, c4, rfl, hc4, x4, _⟩ := hv4.lies
      clear hv4
      go_wp2_with fail
      refine (binary_calls n _ (by omega)).mono ?_
      rintro e w' ⟨rfl, rfl⟩
      have q2 : (X.length : Int) ≤ (binN n : Int) := by omega
      have hXl : X.length ≤ 1000 := by omega
      have HVE : Hid (∀ w', HK w' → HS w' A4 X → Calls Tryd.prog 29 #[.string ⟨R.toArray⟩, .int .i64 (n : Int), .int .i64 (k : Int), .string ⟨sx.toArray⟩, .slice A4 X.length c4] w' fun e W' => e = .returned (.bool true) ∧ Below w'.heap.size w' W') :=
        Lib.hid fun w' hk ht => by
          have := Verify_any R n k sx X A4 c4 w' hk (by omega) hXl hc4 ht HX60.out (by omega)
          rw [HV.out] at this
          exact this
      generalize binN n = bn at *
      have hcell := HC.out _ t4
      have q3 : (k : Int) ≤ (c2 : Int) := by omega
      go_wp2_with fail
      refine (HVE.out _ k4 x4).mono ?_
      rintro e w6 ⟨rfl, b6⟩
      go_wp2_with fail
      go_roundw
      case rel => exact ⟨k + 1, by omega, by go_num, k4.keep b6, t4.keep b6, a4.step b6⟩
      case measure => simp [intOf]; omega
    · obtain rfl : k = n := by omega
      clear HL HShort hlt
      by_cases hin : 0 ≤ m ∧ m < (k : Int)
      · obtain ⟨j, rfl⟩ := Int.eq_ofNat_of_zero_le hin.1
        have hj : j < k := by omega
        have hin1 : (j : Int) < (k : Int) := by omega
        have hA2' : ∃ g, A2 = some ⟨g, 0, none⟩ := by
          rcases hA2 with ⟨_, _, h⟩ | h
          · omega
          · exact h
        obtain ⟨g, hg⟩ := hA2'
        have hcall := Proof_in L A2 c2 j wr (Hid.out kR) (by rw [Hn.out]; omega) (by rw [Hn.out]; exact hc2) (Hid.out tR) (fun x hm => by have := H60.out x hm; omega) (by rw [Hn.out]; exact hj)
        rw [Hn.out] at hcall
        have Hcall := Lib.hid hcall
        clear hcall
        have HC : Hid (∀ w', HS w' A2 L → w'.cell? ⟨g, j, none⟩ = some (.string ⟨(L.getD j []).toArray⟩)) := Lib.hid fun w' h => h.cell hg j (by rw [Hn.out]; exact hj)
        have hS60 : (L.getD j []).length ≤ 60 := H60.out _ (by
          have hkl : j < L.length := by rw [Hn.out]; exact hj
          rw [List.getD_eq_getElem?_getD, List.getElem?_eq_getElem hkl]; exact List.getElem_mem _)
        have hXl : (proofF shaF L j).length ≤ 6 := proofF_length shaF L j 6 (by rw [Hn.out]; omega)
        have HX32 := Lib.hid (proofF_32 shaF shaF_length L j)
        have HOj := Lib.hid (HO.out j hj)
        subst hg
        clear HO hin
        generalize proofF shaF L j = X at *
        generalize L.getD j [] = sx at *
        have q3 : (j : Int) ≤ (c2 : Int) := by omega
        have q4 : (k : Int) ≤ (c2 : Int) := by omega
        go_wp2_with fail
        refine Hcall.out.mono ?_
        rintro e w4 ⟨⟨v4, rfl, hv4⟩, b4⟩
        have a4 := aR.step b4
        have k4 := kR.keep b4
        have t4 := tR.keep b4
        obtain ⟨A4, c4, rfl, hc4, x4, hA4⟩ := hv4.lies
        clear hv4
        go_wp2_with fail
        have hcell := HC.out _ t4
        have HV1 : Hid (∀ w' A c, Hld w4 w' → X.length + 1 ≤ c → Strs w' A (X ++ [R]) → Calls Tryd.prog 29 #[.string ⟨R.toArray⟩, .int .i64 (k : Int), .int .i64 (j : Int), .string ⟨sx.toArray⟩, .slice A (X.length + 1) c] w' fun e W' => e = .returned (.bool false) ∧ Below w'.heap.size w' W') :=
          Lib.hid fun w' A c h hc hs => by
            have hl : (X ++ [R]).length = X.length + 1 := by simp
            have := Verify_any R k j sx (X ++ [R]) A c w' (k4.keep (Hid.out h)) (by omega) (by omega) (by omega) (Lib.hid hs) (fun y hy => by
              rcases List.mem_append.1 hy with h | h
              · rw [HX32.out y h]; omega
              · rw [List.mem_singleton.1 h, HR.out]; omega) (by omega)
            rw [HOj.out (X ++ [R]) (by omega), hl] at this
            exact this
        have HA4 := Lib.hid hA4
        clear hA4
        have hx4 : Hid (∀ w', Hld w4 w' → Strs w' A4 X) := Lib.hid fun w' h => Hid.out (x4.keep (Hid.out h))
        have hkeep : ∀ W', Hld w4 W' → Hld w4 W' ∧ W'.cell? ⟨g, j, none⟩ = some (.string ⟨sx.toArray⟩) := fun W' h => ⟨h, ((Hid.out h).cell (p := ⟨g, j, none⟩) (lt_of_cell hcell)).trans hcell⟩
        have hd0 := Hld.refl w4
        have hszE : (w4.alloc (.cells #[] 9)).heap.size = w4.heap.size + 1 := by simp
        have hszR : (w4.alloc (.cells #[.string ⟨R.toArray⟩] 9)).heap.size = w4.heap.size + 1 := by simp
        have hdE := hd0.alloc (.cells #[] 9)
        have hdR := hd0.alloc (.cells #[.string ⟨R.toArray⟩] 9)
        have hd1 : Hld w4 ((w4.alloc (.cells #[] 9)).drew) := Lib.hid (Hid.out hdE).drew
        have hd2 : Hld w4 (((w4.alloc (.cells #[] 9)).alloc (.cells #[.string ⟨R.toArray⟩] 9)).drew) := Lib.hid (Hid.out (hdE.alloc _)).drew
        have hd3 : Hld w4 (((w4.alloc (.cells #[.string ⟨R.toArray⟩] 9)).alloc (.cells #[] 9)).drew) := Lib.hid (Hid.out (hdR.alloc _)).drew
        have hdR' : Hld w4 ((w4.alloc (.cells #[.string ⟨R.toArray⟩] 9)).drew) := Lib.hid (Hid.out hdR).drew
        go_region_held3 (fun w' => Hld w4 w' ∧ w'.cell? ⟨g, j, none⟩ = some (.string ⟨sx.toArray⟩))
          (first
            | exact hkeep _ (Hld.start _)
            | exact hkeep _ hld6
            | exact hkeep _ hld5
            | exact hkeep _ (Hld.step hld6 b7)
            | exact hkeep _ (Hld.alloc hld5 _)
            | exact hkeep _ hd1
            | exact hkeep _ hdR'
            | exact hkeep _ hd2
            | exact hkeep _ hd3)
          (first
            | (go_at_call 29; (with_reducible refine (HV1.out _ A6 c6 hld6 hc6 hs6).mono ?_); rintro e w7 ⟨rfl, b7⟩)
            | (obtain ⟨v6, w6, hr6, hv6, hg6⟩ := append_rows w4.heap.size w5 hv5 (m := [R]) (c := 1) hsrc (Or.inr ⟨_, rfl⟩) hld5.size (by simp; omega) 26
               obtain ⟨A6, c6, rfl, hc6, x6, _⟩ := hv6.lies
               have hs6 : Strs w6 A6 (X ++ [R]) := Hid.out x6
               simp only [List.length_append, List.length_singleton] at hr6 hc6
               refine step_append_run (by rfl) _ _ _ (by rfl) _ _ (by rfl) (by rfl) hr6 ?_
               have hld6 : Hld w4 w6 := hld5.grown hg6 hv5.lt)
            | (obtain ⟨v6, w6, hr6, hv6, hg6⟩ := append_rows w4.heap.size (w5.alloc (.cells #[.string ⟨R.toArray⟩] 9)) (hv5.alloc _) (m := [R]) (A := some ⟨w5.heap.size, 0, none⟩) (c := 1) (Strs.oneB w5 ⟨R.toArray⟩) (Or.inr ⟨_, rfl⟩) (hld5.alloc _).size (by simp; omega) 26
               obtain ⟨A6, c6, rfl, hc6, x6, _⟩ := hv6.lies
               have hs6 : Strs w6 A6 (X ++ [R]) := Hid.out x6
               simp only [List.length_append, List.length_singleton] at hr6 hc6
               refine step_append_run (by rfl) _ _ _ (by rfl) _ _ (by rfl) (by rfl) hr6 ?_
               have hld6 : Hld w4 w6 := (hld5.alloc _).grown hg6 hv5.lt)
            | (have _hh : Hld w4 (((w4.alloc (.cells #[] 9)).alloc (.cells #[.string ⟨R.toArray⟩] 9)).drew) ∧ World.cell? (((w4.alloc (.cells #[] 9)).alloc (.cells #[.string ⟨R.toArray⟩] 9)).drew) ⟨g, j, none⟩ = some (.string ⟨sx.toArray⟩) := by with_reducible assumption
               obtain ⟨v5, w5, hr5, hv5, hg5⟩ := append_rows w4.heap.size (((w4.alloc (.cells #[] 9)).alloc (.cells #[.string ⟨R.toArray⟩] 9)).drew) (RowS.drew ((RowS.empty w4 w4.heap.size (Nat.le_refl _)).alloc (.cells #[.string ⟨R.toArray⟩] 9))) (m := X) (A := A4) (c := c4) (hx4.out _ hd2) HA4.out hd2.size (by simp; omega) 26
               rw [List.nil_append] at hv5
               refine step_append_run (by rfl) _ _ _ (by rfl) _ _ (by rfl) (by rfl) hr5 ?_
               have hld5 : Hld w4 w5 := hd2.grown hg5 (RowS.lt ((RowS.empty w4 w4.heap.size (Nat.le_refl _)).alloc (.cells #[.string ⟨R.toArray⟩] 9)))
               have hsrc := (Strs.drew (Strs.oneB (w4.alloc (.cells #[] 9)) ⟨R.toArray⟩)).grown hg5 (by simp [Value.ownBlock])
               rw [hszE] at hsrc)
            | (have _hh : Hld w4 (((w4.alloc (.cells #[.string ⟨R.toArray⟩] 9)).alloc (.cells #[] 9)).drew) ∧ World.cell? (((w4.alloc (.cells #[.string ⟨R.toArray⟩] 9)).alloc (.cells #[] 9)).drew) ⟨g, j, none⟩ = some (.string ⟨sx.toArray⟩) := by with_reducible assumption
               obtain ⟨v5, w5, hr5, hv5, hg5⟩ := append_rows w4.heap.size (((w4.alloc (.cells #[.string ⟨R.toArray⟩] 9)).alloc (.cells #[] 9)).drew) (RowS.drew (RowS.empty (w4.alloc (.cells #[.string ⟨R.toArray⟩] 9)) w4.heap.size hdR.size)) (m := X) (A := A4) (c := c4) (hx4.out _ hd3) HA4.out hd3.size (by simp; omega) 26
               rw [hszR] at hr5
               rw [List.nil_append] at hv5
               refine step_append_run (by rfl) _ _ _ (by rfl) _ _ (by rfl) (by rfl) hr5 ?_
               have hld5 : Hld w4 w5 := hd3.grown hg5 (RowS.lt (RowS.empty (w4.alloc (.cells #[.string ⟨R.toArray⟩] 9)) w4.heap.size hdR.size))
               have hsrc := (Strs.drew ((Strs.oneB w4 ⟨R.toArray⟩).keep ((Below.refl _ _).alloc (Nat.le_refl _) (.cells #[] 9)))).grown hg5 (by simp [Value.ownBlock]))
            | (have _hh : Hld w4 ((w4.alloc (.cells #[] 9)).drew) ∧ World.cell? ((w4.alloc (.cells #[] 9)).drew) ⟨g, j, none⟩ = some (.string ⟨sx.toArray⟩) := by with_reducible assumption
               obtain ⟨v5, w5, hr5, hv5, hg5⟩ := append_rows w4.heap.size ((w4.alloc (.cells #[] 9)).drew) (RowS.drew (RowS.empty w4 w4.heap.size (Nat.le_refl _))) (m := X) (A := A4) (c := c4) (hx4.out _ hd1) HA4.out hd1.size (by simp; omega) 26
               rw [List.nil_append] at hv5
               refine step_append_run (by rfl) _ _ _ (by rfl) _ _ (by rfl) (by rfl) hr5 ?_
               have hld5 : Hld w4 w5 := hd1.grown hg5 (RowS.lt (RowS.empty w4 w4.heap.size (Nat.le_refl _)))))
        all_goals
          have hld7 : Hld w4 w7 := hld6.step b7
          have a7 := a4.step (Hid.out hld7)
          have c7 := HC.out _ (t4.keep (Hid.out hld7))
          by_cases hX0 : X.length = 0
          · have q5 : ¬ (0 : Int) < (X.length : Int) := by omega
            rw [hX0]
            go_wp2_with fail
            go_quiet (fail)
            all_goals
              go_wp2_with fail
              go_ret
              exact ⟨rfl, below_drewN (Hid.out a7) nq⟩
          · have q5 : (0 : Int) < (X.length : Int) := by omega
            have hA4' : ∃ g4, A4 = some ⟨g4, 0, none⟩ := by
              rcases HA4.out with ⟨_, _, h⟩ | h
              · exact absurd h hX0
              · exact h
            obtain ⟨g4, hg4⟩ := hA4'
            have HV2 : Hid (∀ w', Hld w7 w' → Calls Tryd.prog 29 #[.string ⟨R.toArray⟩, .int .i64 (k : Int), .int .i64 (j : Int), .string ⟨sx.toArray⟩, .slice (if c4 = 1 then some ⟨g4, 0, none⟩ else some ⟨g4, 1, none⟩) (X.length - 1) (c4 - 1)] w' fun e W' => e = .returned (.bool false) ∧ Below w'.heap.size w' W') :=
              Lib.hid fun w' h => by
                have hl : (X.drop 1).length = X.length - 1 := by simp
                have hw := hld7.step (Hid.out h)
                have hs : Strs w' (if c4 = 1 then some ⟨g4, 0, none⟩ else some ⟨g4, 1, none⟩) (X.drop 1) := by
                  split
                  · exact Or.inl (List.length_eq_zero_iff.1 (by omega))
                  · exact Strs.dropped (hx4.out w' hw) hg4 1
                have := Verify_any R k j sx (X.drop 1) (if c4 = 1 then some ⟨g4, 0, none⟩ else some ⟨g4, 1, none⟩) (c4 - 1) w' (k4.keep (Hid.out hw)) (by omega) (by omega) (by omega) (Lib.hid hs) (fun y hy => by
                  rw [HX32.out y (List.mem_of_mem_drop hy)]; omega) (by omega)
                rw [HOj.out (X.drop 1) (by omega), hl] at this
                exact this
            have hkeep7 : ∀ W', Hld w7 W' → Hld w7 W' ∧ W'.cell? ⟨g, j, none⟩ = some (.string ⟨sx.toArray⟩) := fun W' h => ⟨h, ((Hid.out h).cell (p := ⟨g, j, none⟩) (lt_of_cell c7)).trans c7⟩
            have q6 : (1 : Int) ≤ (X.length : Int) := by omega
            have q7 : (X.length : Int) ≤ (c4 : Int) := by omega
            have q8 : ¬ c4 = 1 ∨ X.length = 1 := by omega
            subst hg4
            obtain ⟨xl, hxl⟩ : ∃ xl, X.length = xl := ⟨_, rfl⟩
            rw [hxl] at HV2 q5 q6 q7 q8 hX0
            rw [hxl]
            have q9 : 0 < xl := by omega
            clear hxl
            by_cases hc41 : c4 = 1
            · rw [if_pos hc41] at HV2
              subst hc41
              go_wp2_with fail
              go_region_held3 (fun w' => Hld w7 w' ∧ w'.cell? ⟨g, j, none⟩ = some (.string ⟨sx.toArray⟩))
                (first
                  | exact hkeep7 _ (Hld.start _)
                  | exact hkeep7 _ hld9)
                (first
                  | (go_at_call 29; (with_reducible refine (HV2.out _ (Hld.start w7)).mono ?_); rintro e w9 ⟨rfl, b9⟩; have hld9 := (Hld.start w7).step b9))
              all_goals
                go_wp2_with fail
                go_ret
                exact ⟨rfl, Hid.out (a7.step (Hid.out hld9))⟩
            · rw [if_neg hc41] at HV2
              go_wp2_with fail
              go_region_held3 (fun w' => Hld w7 w' ∧ w'.cell? ⟨g, j, none⟩ = some (.string ⟨sx.toArray⟩))
                (first
                  | exact hkeep7 _ (Hld.start _)
                  | exact hkeep7 _ hld9)
                (first
                  | (go_at_call 29; (with_reducible refine (HV2.out _ (Hld.start w7)).mono ?_); rintro e w9 ⟨rfl, b9⟩; have hld9 := (Hld.start w7).step b9))
              all_goals
                go_wp2_with fail
                go_ret
                exact ⟨rfl, Hid.out (a7.step (Hid.out hld9))⟩
      · have hcall : ∀ w', Calls Tryd.prog 21 #[.slice A2 k c2, .int .i64 m] w' fun e W' => e = .returned (.tuple #[.slice none 0 0, .int .i64 2]) ∧ Below w'.heap.size w' W' := fun w' => Proof_out k A2 c2 m w' (by omega)
        have Hcall := Lib.hid hcall
        have HV0 : Hid (∀ w', HK w' → Calls Tryd.prog 29 #[.string ⟨R.toArray⟩, .int .i64 (k : Int), .int .i64 m, .string ⟨#[]⟩, .slice none 0 0] w' fun e W' => e = .returned (.bool false) ∧ Below w'.heap.size w' W') :=
          Lib.hid fun w' hk => by
            have := Verify_any R k m [] [] none 0 w' hk (by omega) (by simp) (Nat.le_refl _) (Lib.hid (Or.inl rfl)) (fun y hy => by simp at hy) (by simp)
            rw [verB_out _ _ _ _ _ hin] at this
            exact this
        clear hcall HO
        by_cases hm0 : m < 0
        · clear hin
          go_wp2_with fail
          refine (Hcall.out _).mono ?_
          rintro e w4 ⟨rfl, b4⟩
          have a4 := aR.step b4
          have k4 := kR.keep b4
          go_wp2_with fail
          refine (HV0.out _ k4).mono ?_
          rintro e w5 ⟨rfl, b5⟩
          have a5 := a4.step b5
          go_wp2_with fail
          go_ret
          exact ⟨rfl, Hid.out a5⟩
        · have hm1 : 0 ≤ m := by omega
          have hm2 : (k : Int) ≤ m := by omega
          have hd : decide (m < (k : Int)) = false := decide_eq_false (by omega)
          clear hin hm0
          go_wp2_with fail
          refine (Hcall.out _).mono ?_
          rintro e w4 ⟨rfl, b4⟩
          have a4 := aR.step b4
          have k4 := kR.keep b4
          go_wp2_with fail
          refine (HV0.out _ k4).mono ?_
          rintro e w5 ⟨rfl, b5⟩
          have a5 := a4.step b5
          go_wp2_with fail
          go_ret
          exact ⟨rfl, Hid.out a5⟩
end Go.Proofs.YtinioifhbafngaaDoor
