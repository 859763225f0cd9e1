/- The walk of DigestSplit: for every list and further entry it returns true, and nothing that was there has changed. Condition: the table of constants reads as the program lays it. -/
import Derived.Test.YtinioifhbafngaaDoorApp
namespace Go.Proofs.YtinioifhbafngaaDoor
open Go.RowKit

theorem cut60B (t : ByteArray) : (t.extract 0 (min (t.size : Int) 60).toNat).size ≤ 60 := by
  rw [Lib.size_eq, Lib.extract_data, List.length_take]; omega

set_option maxRecDepth 100000 in
set_option maxHeartbeats 4000000 in
theorem split_walk (A : Option Addr) (l : List Bs) (cap : Nat) (s : ByteArray) (w : World) (hK : Konst w) (_hc : l.length ≤ cap) (hl : l.length ≤ 9223372036854775807) (hs : Strs w A l) (hx : ∀ x ∈ l, x.length ≤ 9223372036854775807) (hsz : s.size ≤ 9223372036854775807) :
    Calls Tryd.prog 10 #[.slice A l.length cap, .string s] w fun e W' => e = .returned (.bool true) ∧ Below w.heap.size w W' := by
  have k0 : HK w := Lib.hid hK
  have s0 : HS w A l := Lib.hid hs
  have Hx := Lib.hid hx
  obtain ⟨N, hN⟩ : ∃ N : Nat, min (s.size : Int) 60 = (N : Int) := ⟨min s.size 60, by omega⟩
  have hcut := cut60B s
  rw [hN, Int.toNat_natCast] at hcut
  have Hcut := Lib.hid hcut
  have hminN : ∀ ts ty W, (Builtin.min_ ts ty #[.int .i64 (s.size : Int), .int .i64 60]).run Tryd.prog W = .ok (.int .i64 (N : Int)) W := fun ts ty W => by rw [run_min2, hN]
  have n1 : (N : Int) ≤ (s.size : Int) := by omega
  have n2 : N ≤ s.size := by omega
  clear hK hs hx hcut hN
  go_enter Tryd.func10, Tryd.ntmps10
  go_wp2_with fail
  refine (sane_calls _ (Hid.out k0)).mono ?_
  rintro e w1 ⟨rfl, b1⟩
  have a1 := (Hld.refl w).step b1
  have k1 := k0.keep b1
  have s1 := s0.keep b1
  go_wp2_with fail
  refine (few_calls l A cap 40 _ (by omega) (Hid.out s1) Hx.out hl).mono ?_
  rintro e w2 ⟨⟨v, rfl, hv⟩, b2⟩
  have a2 := a1.step b2
  have k2 := k1.keep b2
  have h40 := fewL_length l 40
  have H60 := Lib.hid (fewL_60 l 40)
  generalize fewL l 40 = L at *
  obtain ⟨A2, c2, rfl, hc2, t2, hA2⟩ := hv.lies
  have HA2 := Lib.hid hA2
  clear hv s0 s1 hA2
  generalize hxx : s.extract 0 N = x at *
  have e0 : RowS (w2.alloc (.cells #[] 9)) w2.heap.size (.slice (some ⟨w2.heap.size, 0, none⟩) 0 0) [] := RowS.empty w2 _ (Nat.le_refl _)
  obtain ⟨v3, w3, hr3, hv3, hg3⟩ := append_rows w2.heap.size (w2.alloc (.cells #[] 9)) e0 (m := L) (A := A2) (c := c2) (t2.keep ((Below.refl _ w2).alloc (Nat.le_refl _) _)).out HA2.out (by simp) (by simp; omega) 26
  have a3 : Hld w2 w3 := ((Hld.refl w2).alloc _).grown hg3 e0.lt
  rw [List.nil_append] at hv3
  obtain ⟨v4, w4, hr4, hv4, hg4⟩ := append_rows w2.heap.size (w3.alloc (.cells #[.string x] 9)) (hv3.alloc _) (m := [x.data.toList]) (A := some ⟨w3.heap.size, 0, none⟩) (c := 1) (Strs.oneB w3 x) (Or.inr ⟨_, rfl⟩) (by have := a3.size; simp; omega) (by simp; omega) 26
  have a4 : Hld w2 w4 := (a3.alloc _).grown hg4 hv3.lt
  obtain ⟨M, hM⟩ : ∃ M, L ++ [x.data.toList] = M := ⟨_, rfl⟩
  rw [hM] at hv4
  obtain ⟨A4, c4, rfl, hc4, t4, hA4⟩ := hv4.lies
  have hMl : M.length = L.length + 1 := by rw [← hM]; simp
  have HMt : Hid (M.take L.length = L) := Lib.hid (by rw [← hM]; simp)
  have HMd : Hid (L = [] → M = [x.data.toList]) := Lib.hid (by rintro rfl; rw [← hM]; rfl)
  have HM60 : Hid (∀ y ∈ M, y.length ≤ 60) := Lib.hid (by
    intro y hy
    rw [← hM] at hy
    rcases List.mem_append.1 hy with h | h
    · exact H60.out y h
    · rw [List.mem_singleton.1 h, data_length]; exact Hcut.out)
  have hA4' : ∃ g, A4 = some ⟨g, 0, none⟩ := by
    rcases hA4 with ⟨_, _, h⟩ | h
    · omega
    · exact h
  obtain ⟨g4, rfl⟩ := hA4'
  have HM := Lib.hid hM
  clear hM hv4 hv3 hA4
  obtain ⟨n, hn⟩ : ∃ n, L.length = n := ⟨_, rfl⟩
  have HRl : Hid (∀ w', HK w' → HS w' A2 L → Calls Tryd.prog 26 #[.slice A2 n c2] w' fun e W' => e = .returned (.string ⟨(rootF shaF L).toArray⟩) ∧ Below w'.heap.size w' W') := Lib.hid fun w' hk ht => by
    rw [← hn]; exact Root_all L A2 c2 w' hk (by omega) hc2 ht H60.out
  have HRm : Hid (∀ w', HK w' → HS w' (some ⟨g4, 0, none⟩) M → Calls Tryd.prog 26 #[.slice (some ⟨g4, 0, none⟩) (n + 1) c4] w' fun e W' => e = .returned (.string ⟨(rootF shaF M).toArray⟩) ∧ Below w'.heap.size w' W') := Lib.hid fun w' hk ht => by
    rw [← hn, ← hMl]; exact Root_all M _ c4 w' hk (by omega) hc4 ht HM60.out
  have HEx : Hid (∀ w', HK w' → HS w' (some ⟨g4, 0, none⟩) M → Calls Tryd.prog 23 #[.slice (some ⟨g4, 0, none⟩) (n + 1) c4, .int .i64 (n : Int)] w' fun e W' => (∃ v, e = .returned (.tuple #[v, .int .i64 0]) ∧ RowS W' w'.heap.size v (extF shaF M n)) ∧ Below w'.heap.size w' W') := Lib.hid fun w' hk ht => by
    rw [← hn, ← hMl]; exact Extension_in M _ c4 L.length w' (Hid.out hk) (by omega) hc4 (Hid.out ht) (fun y hy => by have := HM60.out y hy; omega) (by omega)
  have HXl : (extF shaF M n).length ≤ 7 := by
    have := exF_length M n (by omega)
    unfold exF at this
    rw [if_pos (by omega), Int.toNat_natCast] at this
    exact this
  have HVE : Hid (∀ w' Ax cx, HK w' → (extF shaF M n).length ≤ cx → HS w' Ax (extF shaF M n) → Calls Tryd.prog 30 #[.string ⟨(rootF shaF L).toArray⟩, .int .i64 (n : Int), .string ⟨(rootF shaF M).toArray⟩, .int .i64 ((n : Int) + 1), .slice Ax (extF shaF M n).length cx] w' fun e W' => e = .returned (.bool true) ∧ Below w'.heap.size w' W') := Lib.hid fun w' Ax cx hk hc ht => by
    have := VerifyExtension_any (rootF shaF L) n (rootF shaF M) ((n : Int) + 1) (extF shaF M n) Ax cx w' hk (by omega) (by omega) hc ht (fun y hy => by rw [extF_32 shaF shaF_length M n y hy]; omega) (by rw [root_length]; omega) (by rw [root_length]; omega)
    have hv := verEB_ext M L.length (by omega)
    rw [HMt.out, hMl, hn, show ((n + 1 : Nat) : Int) = (n : Int) + 1 by omega] at hv
    rw [hv] at this
    exact this
  generalize hX : extF shaF M n = X at *
  rw [hn] at h40 hc2
  rw [hMl, hn] at hc4
  rw [hMl, hn] at hr4
  rw [hn] at hr3
  rw [hn]
  have HL := Lib.hid hn
  clear hn hMl hX
  go_wp2_with (at_builtin; first
    | (refine wpList_append_run rfl _ _ 26 rfl _ _ rfl rfl hr3 ?_)
    | (refine wpList_append_run rfl _ _ 26 rfl _ _ rfl rfl hr4 ?_))
  have k4 := k2.keep (Hid.out a4)
  have u4 := t2.keep (Hid.out a4)
  have d4 := a2.step (Hid.out a4)
  clear hr3 hr4 hg3 hg4 e0 a3 a4
  refine (HEx.out _ k4 t4).mono ?_
  rintro e w5 ⟨⟨v5, rfl, hv5⟩, b5⟩
  have d5 := d4.step b5
  have k5 := k4.keep b5
  have t5 := t4.keep b5
  have u5 := u4.keep b5
  obtain ⟨Ax, cx, rfl, hcx, x5, _⟩ := hv5.lies
  clear hv5
  go_wp2_with fail
  refine (HRl.out _ k5 u5).mono ?_
  rintro e w6 ⟨rfl, b6⟩
  have d6 := d5.step b6
  have k6 := k5.keep b6
  have t6 := t5.keep b6
  have u6 := u5.keep b6
  have x6 := x5.keep b6
  go_wp2_with fail
  refine (HRm.out _ k6 t6).mono ?_
  rintro e w7 ⟨rfl, b7⟩
  have d7 := d6.step b7
  have k7 := k6.keep b7
  have t7 := t6.keep b7
  have u7 := u6.keep b7
  have x7 := x6.keep b7
  go_wp2_with fail
  refine (HVE.out _ Ax cx k7 hcx x7).mono ?_
  rintro e w8 ⟨rfl, b8⟩
  have d8 := d7.step b8
  have k8 := k7.keep b8
  have t8 := t7.keep b8
  have u8 := u7.keep b8
  by_cases h0 : n = 0
  · subst h0
    have hL0 := List.length_eq_zero_iff.1 HL.out
    have HR1 : Hid (rootF shaF M = leafF shaF x.data.toList) := Lib.hid (by rw [HMd.out hL0]; rfl)
    have HR0 : Hid (rootF shaF L = shaF []) := Lib.hid (by rw [hL0]; rfl)
    go_wp2_with fail
    refine (HRm.out _ k8 t8).mono ?_
    rintro e w9 ⟨rfl, b9⟩
    have d9 := d8.step b9
    have k9 := k8.keep b9
    have u9 := u8.keep b9
    go_wp2_with fail
    refine (Leaf_calls x _ (Hid.out k9) (by have := Hcut.out; omega)).mono ?_
    rintro e w10 ⟨rfl, b10⟩
    have d10 := d9.step b10
    have k10 := k9.keep b10
    have u10 := u9.keep b10
    rw [HR1.out]
    go_wp2_with fail
    refine (HRl.out _ k10 u10).mono ?_
    rintro e w11 ⟨rfl, b11⟩
    have d11 := d10.step b11
    have k11 := k10.keep b11
    rw [HR0.out]
    go_wp2_with fail
    refine (Sum_calls _ _ (Hid.out k11) (by decide)).mono ?_
    rintro e w12 ⟨rfl, b12⟩
    have d12 := d11.step b12
    go_wp2_with fail
    go_ret
    exact ⟨rfl, Hid.out d12⟩
  · have q0 : ((n : Int) == 0) = false := by rw [beq_eq_false_iff_ne]; omega
    have Hleft : Hid (∀ w', Calls Tryd.prog 35 #[.int .i64 ((n : Int) + 1)] w' fun e W' => e = .returned (.int .i64 ((left (n + 1) : Nat) : Int)) ∧ w' = W') := Lib.hid fun w' => by
      have := left_calls (n + 1) w' (by omega) (by omega)
      rw [show ((n + 1 : Nat) : Int) = (n : Int) + 1 by omega] at this
      exact this
    have hr := left_range (n + 1) (by omega)
    go_wp2_with fail
    refine (Hleft.out _).mono ?_
    rintro e w9 ⟨rfl, rfl⟩
    have hMl : M.length = n + 1 := by rw [← HM.out, List.length_append, HL.out]; rfl
    have htwo := root_two shaF M (by omega)
    rw [hMl] at htwo
    obtain ⟨k, hk⟩ : ∃ k, left (n + 1) = k := ⟨_, rfl⟩
    rw [hk] at hr htwo ⊢
    have HE := Lib.hid htwo
    have HA' : Hid (∀ w', Hld w8 w' → Calls Tryd.prog 26 #[.slice (some ⟨g4, 0, none⟩) (n + 1) c4] w' fun e W' => e = .returned (.string ⟨(rootF shaF M).toArray⟩) ∧ Below w'.heap.size w' W') := Lib.hid fun w' h => HRm.out w' (k8.keep (Hid.out h)) (t8.keep (Hid.out h))
    have H1 : Hid (∀ w', Hld w8 w' → Calls Tryd.prog 26 #[.slice (some ⟨g4, 0, none⟩) k c4] w' fun e W' => e = .returned (.string ⟨(rootF shaF (M.take k)).toArray⟩) ∧ Below w'.heap.size w' W') := Lib.hid fun w' h =>
      Root_take M _ c4 k w' (k8.keep (Hid.out h)) (by omega) (by omega) (t8.keep (Hid.out h)) HM60.out (by omega)
    have H2 : Hid (∀ w', Hld w8 w' → Calls Tryd.prog 26 #[.slice (some ⟨g4, k, none⟩) (n + 1 - k) (c4 - k)] w' fun e W' => e = .returned (.string ⟨(rootF shaF (M.drop k)).toArray⟩) ∧ Below w'.heap.size w' W') := Lib.hid fun w' h => by
      have hd : (M.drop k).length = n + 1 - k := by rw [List.length_drop, hMl]
      have hst : Strs w' (some ⟨g4, k, none⟩) (M.drop k) := by
        rcases Hid.out (t8.keep (Hid.out h)) with h' | ⟨b, o, he, hs⟩
        · rw [h'] at hMl; simp at hMl
        · have he2 := Option.some.inj he
          injection he2 with h1 h2 h3
          subst h1 h2
          have := (StrsAt.drop hs k).strs
          rwa [Nat.zero_add] at this
      have := Root_calls (M.drop k) (some ⟨g4, k, none⟩) (c4 - k) w' (Hid.out (k8.keep (Hid.out h))) (by omega) (by omega) hst (fun y hy => by have := HM60.out y (List.mem_of_mem_drop hy); omega)
      rw [hd] at this
      exact this
    have HZ1 := Lib.hid (root_length (M.take k))
    have HZ2 := Lib.hid (root_length (M.drop k))
    have HKn : Hid (∀ w', Hld w8 w' → Konst w') := Lib.hid fun w' h => Hid.out (k8.keep (Hid.out h))
    clear htwo hMl hk
    obtain ⟨hr1, hr2, hr3⟩ := hr
    have hc0 : ¬ c4 = k := by omega
    have hk1 : (k : Int) ≤ (n : Int) + 1 := by omega
    have hk2 : (k : Int) ≤ (c4 : Int) := by omega
    have hk3 : (n : Int) + 1 ≤ (c4 : Int) := by omega
    go_wp2_with fail
    go_region_held3 (fun w' => Hld w8 w')
      (first
        | exact Hld.start _
        | exact Hld.step (by assumption) b4)
      (first
        | (go_at_call 26; (with_reducible refine (HA'.out _ (by assumption)).mono ?_); rintro e w10 ⟨rfl, b4⟩)
        | (go_at_call 26; (with_reducible refine (H1.out _ (by assumption)).mono ?_); rintro e w10 ⟨rfl, b4⟩)
        | (go_at_call 26; (with_reducible refine (H2.out _ (by assumption)).mono ?_); rintro e w10 ⟨rfl, b4⟩)
        | (go_at_call 16; (with_reducible refine (Node_calls _ _ _ (HKn.out _ (by assumption)) (by rw [mk_size, HZ1.out]; omega) (by rw [mk_size, HZ2.out]; omega)).mono ?_); rintro e w10 ⟨rfl, b4⟩))
    all_goals
      go_wp2_with fail
      go_ret
      have hend : Hld w8 w10 := by assumption
      refine ⟨?_, (Hid.out d8).trans ((Hid.out hend).mono d8.size)⟩
      show Ending.returned (.bool (rootF shaF M == nodeF shaF (rootF shaF (M.take k)) (rootF shaF (M.drop k)))) = _
      rw [HE.out, beq_self_eq_true]
end Go.Proofs.YtinioifhbafngaaDoor
