/- Contracts of the laws' helpers: pick, cut, weights, sane. -/
import Derived.Test.YtediphiebamffaaOwnAp
namespace Go.Proofs.Ytediphiebamffaa
open Go.RowKit

/-- pick, as a number. -/
def pickF (c n : Int) : Int := if c < 0 then (-(c + 1)) % n else c % n
theorem pickF_lt (c n : Int) (h : 1 ≤ n) : 0 ≤ pickF c n ∧ pickF c n < n := by
  unfold pickF
  split
  · exact ⟨Int.emod_nonneg _ (by omega), Int.emod_lt_of_pos _ (by omega)⟩
  · exact ⟨Int.emod_nonneg _ (by omega), Int.emod_lt_of_pos _ (by omega)⟩
theorem pick_calls (c n : Int) (w : World) (h0 : -9223372036854775808 ≤ c) (h1 : c ≤ 9223372036854775807) (h2 : 1 ≤ n) (h3 : n ≤ 9223372036854775807) :
    Calls Try.prog 13 #[.int .i64 c, .int .i64 n] w fun e w' => e = .returned (.int .i64 (pickF c n)) ∧ w = w' := by
  by_cases h : c < 0
  · have hf : pickF c n = (-(c + 1)) % n := by unfold pickF; rw [if_pos h]
    rw [hf]; clear hf
    go_enter Try.func13, Try.ntmps13
    go_wp2
    go_ret
    refine ⟨?_, rfl⟩
    have hp : (-(c + 1)) % n = -((c + 1).tmod n) := by rw [← Int.neg_tmod, Int.tmod_eq_emod_of_nonneg (by omega)]
    rw [hp]; rfl
  · have hf : pickF c n = c % n := by unfold pickF; rw [if_neg h]
    rw [hf]; clear hf
    go_enter Try.func13, Try.ntmps13
    go_wp2
    go_ret
    exact ⟨rfl, rfl⟩

/-! ### A slice of integers that came in -/
/-- How a slice that came in reads. -/
structure Arg (w : World) (A : Option Addr) (l : List Int) (cap : Nat) : Prop where
  at_ : (l = [] ∧ A = none ∧ cap = 0) ∨ (l = [] ∧ ∃ a, A = some a) ∨ ∃ b o, A = some ⟨b, o, none⟩ ∧ IntsAt w b o l
  in64 : In64 l
  cap_ : l.length ≤ cap
  len : cap ≤ 9223372036854775807
theorem Arg.ints {w : World} {A : Option Addr} {l : List Int} {cap : Nat} (h : Arg w A l cap) : Ints w A l := by
  rcases h.at_ with ⟨h1, _⟩ | ⟨h1, _⟩ | ⟨b, o, h1, h2⟩
  · exact Or.inl h1
  · exact Or.inl h1
  · exact Or.inr ⟨b, o, h1, h2⟩
theorem Arg.keep {w w' : World} {A : Option Addr} {l : List Int} {cap : Nat} (h : Arg w A l cap) (hb : Below w.heap.size w w') : Arg w' A l cap :=
  ⟨by rcases h.at_ with h1 | h1 | ⟨b, o, h1, h2⟩
      · exact Or.inl h1
      · exact Or.inr (Or.inl h1)
      · exact Or.inr (Or.inr ⟨b, o, h1, h2.keep hb⟩), h.in64, h.cap_, h.len⟩
theorem in64_take {l : List Int} (h : In64 l) (k : Nat) : In64 (l.take k) := fun x hx => h x (List.mem_of_mem_take hx)

theorem append_any (base : Nat) (w : World) {v : Value} {l : List Int} (hv : RowI w base v l) {A : Option Addr} {c : Nat} {m : List Int} (hs : (m = [] ∧ A = none ∧ c = 0) ∨ (m = [] ∧ ∃ a, A = some a) ∨ ∃ b o, A = some ⟨b, o, none⟩ ∧ IntsAt w b o m) (hb : base ≤ w.heap.size) (hlen : l.length + m.length ≤ 1000000) (ty : TypeId) :
    ∃ v' w', (Builtin.append_ #[29, 29] ty #[v, .slice A m.length c]).run Try.prog w = .ok v' w' ∧ RowI w' base v' (l ++ m) ∧ w.grownBy w' v.ownBlock := by
  rcases hs with ⟨rfl, rfl, rfl⟩ | ⟨rfl, a, rfl⟩ | ⟨b, o, rfl, hs⟩
  · exact append_ints base w hv (Or.inl rfl) (fun _ => Or.inl ⟨rfl, rfl⟩) hb hlen ty
  · obtain ⟨i0, hi, hz0, hz1, hz2⟩ := info_parts (show (Try.prog.info? 3).map (fun i => (i.zero, i.size, i.bytes)) = some (some (.int .i64 0), 1, 8) from by kernel_rfl)
    rw [List.length_nil] at hlen
    obtain ⟨v', w', hr, ho, hg, _, _⟩ := run_append_own_at w base 29 ty 3 i0 (.int .i64 0) 1 8 Try.underlying29 hi hz0 hz1 hz2 rfl (by decide) v l.length (cellsI l) hv a 0 c [] rfl (fun j u hu => by simp at hu) (fun u hu => by simp at hu) (by unfold maxLen; omega) (by omega) hb
    refine ⟨v', w', hr, ?_, hg⟩
    rw [List.append_nil] at ho ⊢
    exact ho
  · exact append_ints base w hv (Or.inr ⟨b, o, rfl, hs⟩) (fun _ => Or.inr ⟨b, o, rfl⟩) hb hlen ty

set_option maxRecDepth 100000 in
theorem cut_calls (l : List Int) (A : Option Addr) (cap : Nat) (w : World) (h : Arg w A l cap) :
    Calls Try.prog 18 #[.slice A l.length cap] w fun e W' => (∃ v, e = .returned v ∧ RowI W' w.heap.size v (l.take 40)) ∧ Below w.heap.size w W' := by
  have hcap := h.cap_
  have hlen := h.len
  obtain ⟨N, hN⟩ : ∃ N : Nat, min (l.length : Int) 40 = (N : Int) := ⟨min l.length 40, by omega⟩
  have hN1 : N ≤ l.length := by omega
  have hN2 : N ≤ 40 := by omega
  have hNn : (l.take 40).length = N := by rw [List.length_take]; omega
  have e0 : RowI (w.alloc (.cells #[] 3)) w.heap.size (.slice (some ⟨w.heap.size, 0, none⟩) 0 0) [] := RowI.empty w _ (Nat.le_refl _)
  have hmin : ∀ ts ty W, (Builtin.min_ ts ty #[.int .i64 (l.length : Int), .int .i64 40]).run Try.prog W = .ok (.int .i64 (N : Int)) W := fun ts ty W => by rw [run_min2, hN]
  have hb1 : Below w.heap.size w (w.alloc (.cells #[] 3)) := (Below.refl _ _).alloc (Nat.le_refl _) _
  have ha := (h.keep hb1).at_
  clear hN h
  have key : ∀ (c : Nat), ((l.take 40 = [] ∧ A = none ∧ c = 0) ∨ (l.take 40 = [] ∧ ∃ a, A = some a) ∨ ∃ b o, A = some ⟨b, o, none⟩ ∧ IntsAt (w.alloc (.cells #[] 3)) b o (l.take 40)) → ∃ v' w', (Builtin.append_ #[29, 29] 29 #[.slice (some ⟨w.heap.size, 0, none⟩) 0 0, .slice A N c]).run Try.prog (w.alloc (.cells #[] 3)) = .ok v' w' ∧ RowI w' w.heap.size v' (l.take 40) ∧ (w.alloc (.cells #[] 3)).grownBy w' (some w.heap.size) := by
    intro c hc
    have := append_any w.heap.size (w.alloc (.cells #[] 3)) e0 hc (by simp) (by rw [hNn, List.length_nil]; omega) 29
    rw [hNn, List.nil_append] at this
    exact this
  have HKEY := Lib.hid key
  have k1 : (N : Int) ≤ (l.length : Int) := by omega
  have k2 : (N : Int) ≤ (cap : Int) := by omega
  have k3 : (0 : Int) ≤ (N : Int) := by omega
  rcases ha with ⟨h1, rfl, rfl⟩ | ⟨h1, a, rfl⟩ | ⟨b, o, rfl, hI⟩
  · have hN0 : N = 0 := by rw [h1] at hN1; simpa using hN1
    subst hN0
    obtain ⟨v3, w3, hr3, hv3, hg3⟩ := HKEY.out 0 (Or.inl ⟨by rw [h1]; rfl, rfl, rfl⟩)
    have a3 : Hld w w3 := ((Hld.refl w).alloc _).grown hg3 (fun k e => by injection e with e; omega)
    have HV := Lib.hid hv3
    clear key hv3 hg3 e0 hb1 h1
    go_enter Try.func18, Try.ntmps18
    go_wp2_with (at_builtin; refine wpList_append_run rfl _ _ 29 rfl _ _ rfl rfl hr3 ?_)
    go_ret
    exact ⟨⟨_, rfl, HV.out⟩, Hid.out a3⟩
  · have hN0 : N = 0 := by rw [h1] at hN1; simpa using hN1
    subst hN0
    obtain ⟨v3, w3, hr3, hv3, hg3⟩ := HKEY.out cap (Or.inr (Or.inl ⟨by rw [h1]; rfl, a, rfl⟩))
    have a3 : Hld w w3 := ((Hld.refl w).alloc _).grown hg3 (fun k e => by injection e with e; omega)
    have HV := Lib.hid hv3
    clear key hv3 hg3 e0 hb1 h1
    go_enter Try.func18, Try.ntmps18
    go_wp2_with (at_builtin; refine wpList_append_run rfl _ _ 29 rfl _ _ rfl rfl hr3 ?_)
    go_ret
    exact ⟨⟨_, rfl, HV.out⟩, Hid.out a3⟩
  · obtain ⟨v3, w3, hr3, hv3, hg3⟩ := HKEY.out cap (Or.inr (Or.inr ⟨b, o, rfl, hI.take 40⟩))
    have a3 : Hld w w3 := ((Hld.refl w).alloc _).grown hg3 (fun k e => by injection e with e; omega)
    have HV := Lib.hid hv3
    clear key hv3 hg3 e0 hb1 hI
    go_enter Try.func18, Try.ntmps18
    go_wp2_with (at_builtin; refine wpList_append_run rfl _ _ 29 rfl _ _ rfl rfl hr3 ?_)
    go_ret
    exact ⟨⟨_, rfl, HV.out⟩, Hid.out a3⟩

/-! ### weights -/
def wtF (i : Nat) (x : Int) : Int := if i % 2 = 0 then pickF x 10000000000001 % 100 else pickF x 10000000000001
theorem wtF_bd (i : Nat) (x : Int) : 0 ≤ wtF i x ∧ wtF i x ≤ 10000000000000 := by
  have h := pickF_lt x 10000000000001 (by omega)
  unfold wtF
  split <;> omega
def wtL (l : List Int) : List Int := listN (min l.length 40) fun i => wtF i (l.getD i 0)
theorem wtL_length (l : List Int) : (wtL l).length = min l.length 40 := listN_length _ _
theorem wtL_mem (l : List Int) : ∀ x ∈ wtL l, 0 ≤ x ∧ x ≤ 10000000000000 := by
  intro x hx
  unfold wtL listN at hx
  obtain ⟨i, _, rfl⟩ := List.mem_map.1 hx
  exact wtF_bd _ _
theorem weights_nil (A : Option Addr) (cap : Nat) (w : World) : Calls Try.prog 19 #[.slice A 0 cap] w fun e W' => e = .returned (.slice none 0 0) ∧ w = W' := by
  go_enter Try.func19, Try.ntmps19
  go_wp2_with fail
  go_loop [3, 4] (fun ov iv => ov = .slice none 0 0 ∧ iv = .int .i64 0) (fun _ _ => 0)
  case atStart => exact ⟨rfl, rfl⟩
  case round =>
    obtain ⟨rfl, rfl⟩ := hrel
    go_wp2_with fail
    go_ret
    exact ⟨rfl, rfl⟩
set_option maxRecDepth 100000 in
set_option maxHeartbeats 1000000 in
theorem weights_calls (l : List Int) (A : Option Addr) (cap : Nat) (w : World) (h : Arg w A l cap) :
    Calls Try.prog 19 #[.slice A l.length cap] w fun e W' => (∃ v, e = .returned v ∧ RowI W' w.heap.size v (wtL l)) ∧ Below w.heap.size w W' := by
  have hemp : l = [] → Calls Try.prog 19 #[.slice A l.length cap] w fun e W' => (∃ v, e = .returned v ∧ RowI W' w.heap.size v (wtL l)) ∧ Below w.heap.size w W' := by
    rintro rfl
    refine (weights_nil A cap w).mono ?_
    rintro e w' ⟨rfl, rfl⟩
    exact ⟨⟨_, rfl, RowI.nil _ _⟩, Below.refl _ _⟩
  rcases h.at_ with ⟨h1, _⟩ | ⟨h1, _⟩ | ⟨b, o, rfl, hI⟩
  · exact hemp h1
  · exact hemp h1
  clear hemp
  have hl : l.length ≤ 9223372036854775807 := Nat.le_trans h.cap_ h.len
  have HI := Lib.hid hI
  have HX := Lib.hid h.in64
  have HM : Hid ((wtL l) = listN (min l.length 40) fun i => wtF i (l.getD i 0)) := Lib.hid rfl
  clear h hI
  obtain ⟨n, hn⟩ : ∃ n, l.length = n := ⟨_, rfl⟩
  have Hn := Lib.hid hn
  rw [hn] at hl HM ⊢
  clear hn
  go_enter Try.func19, Try.ntmps19
  go_wp2_with fail
  go_loopw [3, 4] (fun ov iv wr => ∃ k : Nat, k ≤ n ∧ k ≤ 40 ∧ iv = .int .i64 (k : Int) ∧ Hid (RowI wr w.heap.size ov (listN k fun i => wtF i (l.getD i 0))) ∧ Hid (Below w.heap.size w wr))
    (fun _ iv _ => 40 - (intOf iv).toNat)
  case atStart => exact ⟨0, by omega, by omega, rfl, Lib.hid (RowI.nil _ _), Lib.hid (Below.refl _ _)⟩
  case round =>
    obtain ⟨k, hk1, hk2, rfl, HR, HB⟩ := hrel
    by_cases hlt : k < n
    · by_cases hlt2 : k < 40
      · have c1 : wr.cell? ⟨b, o + k, none⟩ = some (.int .i64 (l.getD k 0)) := (HI.out.keep HB.out) k (by rw [Hn.out]; exact hlt)
        have hx := HX.out.getD k (by rw [Hn.out]; exact hlt)
        have hsz := HB.out.size
        obtain ⟨v2, w2, hr2, hv2, hg2, hn2⟩ := append_one w.heap.size wr HR.out (wtF k (l.getD k 0)) hsz (by rw [listN_length]; omega) 29
        rw [← listN_snoc k fun i => wtF i (l.getD i 0)] at hv2
        have HV2 := Lib.hid hv2
        have HB2 : Hid (Below w.heap.size w w2) := Lib.hid ((HB.out.alloc hsz _).grown hg2 (by simp; omega) (fun q e => (World.ownsRow.lt HR.out q e).1))
        clear hv2 hg2 hn2 HR hsz
        generalize l.getD k 0 = x at *
        have hp := pickF_lt x 10000000000001 (by omega)
        have k0 : (0 : Int) ≤ (k : Int) := by omega
        have k1 : (k : Int) < (n : Int) := by omega
        have k2 : (k : Int) < 40 := by omega
        by_cases hev : k % 2 = 0
        · have HW := Lib.hid (show wtF k x = pickF x 10000000000001 % 100 from by unfold wtF; rw [if_pos hev])
          rw [HW.out] at hr2
          have k3 : ((k : Int) % 2 == 0) = true := by simp; omega
          have HPk := Lib.hid (fun W => pick_calls x 10000000000001 W hx.1 hx.2 (by omega) (by omega))
          clear HW hev hx
          generalize pickF x 10000000000001 = p at *
          go_wp2_with fail
          refine (HPk.out _).mono ?_
          rintro e w' ⟨rfl, rfl⟩
          go_wp2_with (at_builtin; refine wpList_append_run rfl _ _ 29 rfl _ _ rfl rfl hr2 ?_)
          go_roundw
          case rel => exact ⟨k + 1, by omega, by omega, by go_num, HV2, HB2⟩
          case measure => simp [intOf]; omega
        · have HW := Lib.hid (show wtF k x = pickF x 10000000000001 from by unfold wtF; rw [if_neg hev])
          rw [HW.out] at hr2
          have k3 : ((k : Int) % 2 == 0) = false := by simp; omega
          have HPk := Lib.hid (fun W => pick_calls x 10000000000001 W hx.1 hx.2 (by omega) (by omega))
          clear HW hev hx
          generalize pickF x 10000000000001 = p at *
          go_wp2_with fail
          refine (HPk.out _).mono ?_
          rintro e w' ⟨rfl, rfl⟩
          go_wp2_with (at_builtin; refine wpList_append_run rfl _ _ 29 rfl _ _ rfl rfl hr2 ?_)
          go_roundw
          case rel => exact ⟨k + 1, by omega, by omega, by go_num, HV2, HB2⟩
          case measure => simp [intOf]; omega
      · have hk40 : k = 40 := by omega
        have HE : Hid (RowI wr w.heap.size u3 (wtL l)) := Lib.hid (by
          have h2 := HR.out
          rw [HM.out, show min n 40 = k by omega]
          exact h2)
        have k0 : (0 : Int) ≤ (k : Int) := by omega
        have k1 : (k : Int) < (n : Int) := by omega
        have k2 : decide ((k : Int) < 40) = false := decide_eq_false (by omega)
        have k3 : decide (k < 40) = false := decide_eq_false (by omega)
        clear hk40 HR hlt hlt2
        go_wp2_with fail
        go_ret
        exact ⟨⟨_, rfl, HE.out⟩, HB.out⟩
    · obtain rfl : k = n := by omega
      have HE : Hid (RowI wr w.heap.size u3 (wtL l)) := Lib.hid (by
        have h2 := HR.out
        rw [HM.out, show min k 40 = k by omega]
        exact h2)
      clear HR
      go_wp2_with fail
      go_ret
      exact ⟨⟨_, rfl, HE.out⟩, HB.out⟩

/-! ### sane -/
theorem ap_all (t : Int) (l : List Int) (A : Option Addr) (cap : Nat) (w : World) (hs : Ints w A l) (hl : l.length ≤ 100000) :
    Calls Try.prog 20 #[.int .i64 t, .slice A l.length cap] w fun e w' => (apOk t l ∧ ApAns w t l e w') ∨ (¬ apOk t l ∧ e = .returned apNo ∧ Below w.heap.size w w') := by
  by_cases h : apOk t l
  · exact (ownAp_ok t l A cap w hs hl h).mono fun e w' h2 => Or.inl ⟨h, h2⟩
  · exact (ownAp_bad t l A cap w hs (by omega) h).mono fun e w' h2 => Or.inr ⟨h, h2⟩
theorem sane_md : mdV 1000000000000000 999999 1000000 = .tuple #[.int .i64 999999000000000, .bool true] := by unfold mdV; rw [if_pos (by decide)]; rfl
theorem sane_md0 : mdV 7 3 0 = .tuple #[.int .i64 0, .bool false] := by unfold mdV; rw [if_neg (by decide)]
theorem sane_pc : pcF 999 500000 = 499 := by decide
theorem sane_ok : apOk 100 [1, 1, 1] := ⟨by decide, by decide, by decide, by decide⟩
theorem sane_no : ¬ apOk 5 [0, 0] := fun h => absurd h.2.2.1 (by decide)
theorem sane_parts : apL 100 [1, 1, 1] = [34, 33, 33] := by decide +kernel
theorem sane_sum : smV [1, 2, 3] = .tuple #[.int .i64 6, .bool true] := by rfl
set_option maxRecDepth 100000 in
set_option maxHeartbeats 1000000 in
theorem sane_calls (w : World) : Calls Try.prog 12 #[] w fun e W' => e = .returned (.bool true) ∧ Below w.heap.size w W' := by
  go_enter Try.func12, Try.ntmps12
  go_wp2_with fail
  refine (mulDiv_calls 1000000000000000 999999 1000000 _ (by decide) (by decide) (by decide)).mono ?_
  rintro e w1 ⟨rfl, b1⟩
  rw [sane_md]
  have a1 : Hld w w1 := Lib.hid b1
  clear b1
  go_wp2_with fail
  refine (mulDiv_calls 7 3 0 _ (by decide) (by decide) (by decide)).mono ?_
  rintro e w2 ⟨rfl, b2⟩
  rw [sane_md0]
  have a2 := a1.step b2
  clear b2 a1
  go_wp2_with fail
  have H3 := Lib.hid (ints_three w2 1 1 1 3)
  have a3 := a2.alloc (.cells #[.int .i64 1, .int .i64 1, .int .i64 1] 3)
  generalize hw3 : w2.alloc (.cells #[.int .i64 1, .int .i64 1, .int .i64 1] 3) = w3 at *
  clear hw3
  refine (ownAp_ok 100 [1, 1, 1] _ 3 w3 H3.out.ints (by decide) sane_ok).mono ?_
  rintro e w4 ⟨⟨g, cp, rfl, hcp, hI⟩, b4⟩
  rw [sane_parts] at hI
  have a4 := a3.step b4
  have HI4 := Lib.hid hI
  clear b4 a3 hI H3
  go_wp2_with fail
  have H5 := Lib.hid (ints_two w4 0 0 3)
  have a5 := a4.alloc (.cells #[.int .i64 0, .int .i64 0] 3)
  have HI5 := Lib.hid (HI4.out.keep ((Below.refl w4.heap.size w4).alloc (Nat.le_refl _) (.cells #[.int .i64 0, .int .i64 0] 3)))
  generalize hw5 : w4.alloc (.cells #[.int .i64 0, .int .i64 0] 3) = w5 at *
  clear hw5 HI4
  refine (ownAp_bad 5 [0, 0] _ 2 w5 H5.out.ints (by decide) sane_no).mono ?_
  rintro e w6 ⟨rfl, b6⟩
  have a6 := a5.step b6
  have HI6 := Lib.hid (HI5.out.keep b6)
  clear b6 a5 HI5 H5
  unfold apNo
  go_wp2_with fail
  refine (own_cents 25001 _ (by decide) (by decide)).mono ?_
  rintro e w7 ⟨rfl, rfl⟩
  go_wp2_with fail
  have H8 := Lib.hid (ints_three w6 1 2 3 3)
  have a8 := a6.alloc (.cells #[.int .i64 1, .int .i64 2, .int .i64 3] 3)
  have HI8 := Lib.hid (HI6.out.keep ((Below.refl w6.heap.size w6).alloc (Nat.le_refl _) (.cells #[.int .i64 1, .int .i64 2, .int .i64 3] 3)))
  generalize hw8 : w6.alloc (.cells #[.int .i64 1, .int .i64 2, .int .i64 3] 3) = w8 at *
  clear hw8 HI6 a6
  refine (own_sum [1, 2, 3] _ 3 w8 H8.out.ints (by decide)).mono ?_
  rintro e w9 ⟨rfl, b9⟩
  rw [sane_sum]
  have a9 := a8.step b9
  have HI9 := Lib.hid (HI8.out.keep b9)
  clear b9 a8 HI8 H8
  go_wp2_with fail
  have H10 := ints_three w9 34 33 33 3
  have HI10 := HI9.out.keep ((Below.refl w9.heap.size w9).alloc (Nat.le_refl _) (.cells #[.int .i64 34, .int .i64 33, .int .i64 33] 3))
  have a10 := a9.alloc (.cells #[.int .i64 34, .int .i64 33, .int .i64 33] 3)
  refine (same_calls [34, 33, 33] [34, 33, 33] _ _ cp 3 _ HI10.ints H10.ints (by decide)).mono ?_
  rintro e w11 ⟨rfl, b11⟩
  have a11 := a10.step b11
  clear H10 HI10 HI9 b11 a10 a9
  rw [decide_eq_true rfl]
  go_wp2_with fail
  refine (own_percent 999 500000 _ (by decide) (by decide)).mono ?_
  rintro e w12 ⟨rfl, b12⟩
  rw [sane_pc]
  have a12 := a11.step b12
  clear b12 a11
  go_wp2_with fail
  go_ret
  exact ⟨rfl, Hid.out a12⟩
end Go.Proofs.Ytediphiebamffaa
