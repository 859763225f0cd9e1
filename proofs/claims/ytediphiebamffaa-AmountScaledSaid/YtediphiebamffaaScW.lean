/- The walk of AmountScaled: for all totals, every list, number and place it returns true, and nothing that was there has changed. -/
import Derived.Test.YtediphiebamffaaScF
import Derived.Test.YtediphiebamffaaApmW
namespace Go.Proofs.Ytediphiebamffaa
open Go.RowKit

theorem RowI.drew {w : World} {base : Nat} {v : Value} {l : List Int} (h : RowI w base v l) : RowI w.drew base v l := h
theorem IntsAt.drew {w : World} {b o : Nat} {l : List Int} (h : IntsAt w b o l) : IntsAt w.drew b o l := h
theorem IntsAt.grown {w w' : World} {b o : Nat} {l : List Int} {row : Option Nat} (h : IntsAt w b o l) (hg : w.grownBy w' row) (hne : some b ≠ row) : IntsAt w' b o l := fun i hi => by
  have hb : b < w.heap.size := lt_of_cell (h i hi)
  exact (World.cell?_of_block (w := w) (w' := w') (a := ⟨b, o + i, none⟩) (hg.block b hb hne)).trans (h i hi)
theorem RowI.argL {w : World} {base : Nat} {v : Value} {l : List Int} (h : RowI w base v l) (h64 : In64 l) : ∃ A cap, v = .slice A l.length cap ∧ Arg w A l cap ∧ Lies A cap l.length := by
  obtain ⟨A, cap, rfl, ha⟩ := h.arg h64
  obtain ⟨A', cap', e, _, _, hl⟩ := h.slice
  injection e with e1 e2 e3
  subst e1 e3
  exact ⟨A, cap, rfl, ha, hl⟩
/-- An append in a region, from a run that is known to be. -/
theorem step_app {P : Program} {ops : Array Oper} {o : Oper} {a : Act} {w : World} {K : Act → World → Prop} {Q : Exit → Act → World → Prop} {E : Prop} (hw : Region.wanted o (yielded ops a.tmps) = true) (s x : Operand) (t : TypeId)
    (ho : o.op = .call { callee := .builtin .append, args := #[s, x], argTypes := #[t, t] }) (v u : Value) (hs : a.eval s = v) (hx : a.eval x = u) {b0 : Nat} {m : List Int}
    (hr : ∃ v' w', (Builtin.append_ #[t, t] o.type #[v, u]).run P w = .ok v' w' ∧ RowI w' b0 v' m ∧ w.grownBy w' v.ownBlock) (h : ∀ v' w', RowI w' b0 v' m → w.grownBy w' v.ownBlock → K (a.put o.dst v') w') :
    if Region.wanted o (yielded ops a.tmps) = true then Oper.wp P o a w K Q else E := by
  rw [if_pos hw]
  obtain ⟨v', w', h1, h2, h3⟩ := hr
  exact wp_append_run s x t ho v u hs hx h1 (h v' w' h2 h3)
/-- Appending a part of a list that lies somewhere. -/
theorem app_part (b0 : Nat) (W : World) {v : Value} {l : List Int} (hv : RowI W b0 v l) {A : Option Addr} {c r : Nat} {m : List Int} (hr : m.length = r)
    (hs : (m = [] ∧ A = none ∧ c = 0) ∨ (m = [] ∧ ∃ a, A = some a) ∨ ∃ b o, A = some ⟨b, o, none⟩ ∧ IntsAt W b o m) (hb : b0 ≤ W.heap.size) (hlen : l.length + m.length ≤ 1000000) :
    ∃ v' w', (Builtin.append_ #[29, 29] 29 #[v, .slice A r c]).run Try.prog W = .ok v' w' ∧ RowI w' b0 v' (l ++ m) ∧ W.grownBy w' v.ownBlock := by
  subst hr; exact append_any b0 W hv hs hb hlen 29
/-- Where the rest of a list lies, from place k on. -/
def RestAt (A0 : Option Addr) (n k : Nat) (A : Option Addr) (c : Nat) : Prop := (∃ g, A0 = some ⟨g, 0, none⟩ ∧ A = some ⟨g, k, none⟩) ∨ (n = k ∧ ∃ x, A = some x) ∨ (n = k ∧ A = none ∧ c = 0)
theorem app_take {w0 W : World} (h : Hld w0 W) {A : Option Addr} {L : List Int} {n a c : Nat} (hA : Ints w0 A L) (hl : Lies A c n) (hn : L.length = n) (ha : a ≤ n) (hn2 : n ≤ 1000) {v : Value} {l : List Int} (hv : RowI W w0.heap.size v l) (hlen : l.length ≤ 1000) :
    ∃ v' w', (Builtin.append_ #[29, 29] 29 #[v, .slice A a c]).run Try.prog W = .ok v' w' ∧ RowI w' w0.heap.size v' (l ++ L.take a) ∧ W.grownBy w' v.ownBlock := by
  have ht : (L.take a).length = a := by rw [List.length_take, hn]; omega
  refine app_part _ W hv ht ?_ h.size (by rw [ht]; omega)
  rcases hl with ⟨rfl, rfl, rfl⟩ | ⟨g, rfl⟩
  · left; exact ⟨List.length_eq_zero_iff.1 (by omega), rfl, rfl⟩
  · rcases Ints.take (hA.keep (Hid.out h)) a with h1 | ⟨b, o, e, h1⟩
    · exact Or.inr (Or.inl ⟨h1, _, rfl⟩)
    · exact Or.inr (Or.inr ⟨b, o, e, h1⟩)
theorem app_rest {w0 W : World} (h : Hld w0 W) {A A' : Option Addr} {L : List Int} {n k c r : Nat} (hA : Ints w0 A L) (hr : RestAt A n k A' c) (hn : L.length = n) (ha : r = n - k) (hn2 : n ≤ 1000) {v : Value} {l : List Int} (hv : RowI W w0.heap.size v l) (hlen : l.length ≤ 1000) :
    ∃ v' w', (Builtin.append_ #[29, 29] 29 #[v, .slice A' r c]).run Try.prog W = .ok v' w' ∧ RowI w' w0.heap.size v' (l ++ L.drop k) ∧ W.grownBy w' v.ownBlock := by
  have ht : (L.drop k).length = r := by rw [List.length_drop, hn, ha]
  refine app_part _ W hv ht ?_ h.size (by rw [ht]; omega)
  rcases hr with ⟨g, rfl, rfl⟩ | ⟨h1, x, rfl⟩ | ⟨h1, rfl, rfl⟩
  · rcases hA.keep (Hid.out h) with rfl | ⟨b, o, e, hs⟩
    · exact Or.inr (Or.inl ⟨by simp, _, rfl⟩)
    · have e2 := Option.some.inj e
      injection e2 with h1 h2 h3
      subst h1 h2
      have := IntsAt.drop hs k
      rw [Nat.zero_add] at this
      exact Or.inr (Or.inr ⟨_, _, rfl, this⟩)
  · exact Or.inr (Or.inl ⟨List.drop_of_length_le (by omega), _, rfl⟩)
  · exact Or.inl ⟨List.drop_of_length_le (by omega), rfl, rfl⟩
theorem app_zero {w0 W : World} (h : Hld w0 W) {B : Nat} (hz : IntsAt W B 0 [0]) {v : Value} {l : List Int} (hv : RowI W w0.heap.size v l) (hlen : l.length ≤ 1000) :
    ∃ v' w', (Builtin.append_ #[29, 29] 29 #[v, .slice (some ⟨B, 0, none⟩) 1 1]).run Try.prog W = .ok v' w' ∧ RowI w' w0.heap.size v' (l ++ [0]) ∧ W.grownBy w' v.ownBlock :=
  app_part _ W hv rfl (Or.inr (Or.inr ⟨_, _, rfl, hz⟩)) h.size (by show l.length + 1 ≤ _; omega)
/-- What the loop holds: the row of scaled weights; nothing of before has changed. -/
structure ScR (w0 w : World) (M : List Int) (q i : Nat) (v : Value) : Prop where
  bel : Below w0.heap.size w0 w
  row : RowI w w0.heap.size v (listN i fun j => (((1 + q) * wN M j : Nat) : Int))
theorem ScR.next {w0 w : World} {M : List Int} {q i : Nat} {v : Value} (h : ScR w0 w M q i v) (hi : i ≤ 40) (x : Int) (hx : x = (((1 + q) * wN M i : Nat) : Int)) :
    ∃ v' w', (Builtin.append_ #[29, 29] 29 #[v, .slice (some ⟨w.heap.size, 0, none⟩) 1 1]).run Try.prog (w.alloc (.cells #[.int .i64 x] 3)) = .ok v' w' ∧ ScR w0 w' M q (i + 1) v' := by
  obtain ⟨v2, w2, hr2, hv2, hg2, hn2⟩ := append_one w0.heap.size w h.row x h.bel.size (by rw [listN_length]; omega) 29
  have b2 : Below w0.heap.size w0 w2 := (h.bel.alloc h.bel.size _).grown hg2 (by have := h.bel.size; simp; omega) (fun q e => (World.ownsRow.lt h.row q e).1)
  refine ⟨v2, w2, hr2, b2, ?_⟩
  rw [listN_snoc, ← hx]; exact hv2
/-- Apportion, where it answers and where it does not, with the length as a number. -/
theorem apN_ok (t : Int) (L P : List Int) (A : Option Addr) (c n : Nat) (w : World) (hs : Ints w A L) (hn : L.length = n) (h100 : n ≤ 1000) (h : apOk t L) (hP : apL t L = P) :
    Calls Try.prog 20 #[.int .i64 t, .slice A n c] w fun e w' => ∃ g cap, e = .returned (.tuple #[.slice (some ⟨g, 0, none⟩) n cap, .bool true]) ∧ n ≤ cap ∧ IntsAt w' g 0 P ∧ Below w.heap.size w w' := by
  subst hn hP
  refine (ownAp_ok t L A c w hs (by omega) h).mono ?_
  rintro e w' ⟨⟨g, cap, h1, h2, h3⟩, h4⟩
  exact ⟨g, cap, h1, h2, h3, h4⟩
theorem apN_bad (t : Int) (L : List Int) (A : Option Addr) (c n : Nat) (w : World) (hs : Ints w A L) (hn : L.length = n) (h100 : n ≤ 1000) (h : ¬ apOk t L) :
    Calls Try.prog 20 #[.int .i64 t, .slice A n c] w fun e w' => e = .returned (.tuple #[.slice none 0 0, .bool false]) ∧ Below w.heap.size w w' := by
  subst hn
  exact ownAp_bad t L A c w hs (by omega) h
theorem sameN (P : List Int) (A B : Option Addr) (c d n : Nat) (w : World) (hs : Ints w A P) (ht : Ints w B P) (hn : P.length = n) (h : n ≤ 1000) :
    Calls Try.prog 22 #[.slice A n c, .slice B n d] w fun e w' => e = .returned (.bool true) ∧ Below w.heap.size w w' := by
  subst hn
  have := same_calls P P A B c d w hs ht (by omega)
  rw [decide_eq_true rfl] at this
  exact this
theorem in64_sc (q : Nat) (M : List Int) (hq : q ≤ 59) (hM : ∀ i, wN M i ≤ 10000000000000) : In64 (scL (1 + q) M) := by
  intro x hx
  unfold scL listN at hx
  obtain ⟨i, _, rfl⟩ := List.mem_map.1 hx
  have h := Nat.mul_le_mul (show 1 + q ≤ 60 by omega) (hM i)
  omega
theorem in64_ins (a : Nat) (M : List Int) (h : In64 M) : In64 (insL a M) := by
  intro x hx
  rcases (mem_ins a M x).1 hx with rfl | h2
  · omega
  · exact h x h2
theorem prod_bd (q x m : Nat) (hq : q ≤ 59) (hx : x ≤ m) : 0 ≤ (1 + (q : Int)) * (x : Int) ∧ (1 + (q : Int)) * (x : Int) ≤ 60 * (m : Int) := by
  have h := Nat.mul_le_mul (show 1 + q ≤ 60 by omega) hx
  have e : (1 + (q : Int)) * (x : Int) = (((1 + q) * x : Nat) : Int) := by rw [Int.natCast_mul, Int.natCast_add]; rfl
  rw [e]; omega
theorem prod_cast (q x : Nat) : (1 + (q : Int)) * (x : Int) = (((1 + q) * x : Nat) : Int) := by rw [Int.natCast_mul, Int.natCast_add]; rfl
set_option maxRecDepth 100000 in
set_option maxHeartbeats 8000000 in
theorem sc_walk (t : Int) (A : Option Addr) (l : List Int) (cap : Nat) (tm at' : Int) (w : World) (ht : -9223372036854775808 ≤ t) (ht' : t ≤ 9223372036854775807) (ha : Arg w A l cap) (hm : -9223372036854775808 ≤ tm) (hm' : tm ≤ 9223372036854775807) (hk : -9223372036854775808 ≤ at') (hk' : at' ≤ 9223372036854775807) :
    Calls Try.prog 9 #[.int .i64 t, .slice A l.length cap, .int .i64 tm, .int .i64 at'] w fun e W' => e = .returned (.bool true) ∧ Below w.heap.size w W' := by
  have HA := Lib.hid ha
  have p1 := pickF_lt t 1000000000000001 (by omega)
  have H1 := Lib.hid (fun W => pick_calls t 1000000000000001 W ht ht' (by omega) (by omega))
  have p2 := pickF_lt tm 60 (by omega)
  have H2 := Lib.hid (fun W => pick_calls tm 60 W hm hm' (by omega) (by omega))
  have HAT := Lib.hid (And.intro hk hk')
  clear ha ht ht' hm hm' hk hk'
  generalize pickF t 1000000000000001 = t1 at *
  generalize pickF tm 60 = q1 at *
  obtain ⟨T, rfl⟩ := Int.eq_ofNat_of_zero_le p1.1
  obtain ⟨q, rfl⟩ := Int.eq_ofNat_of_zero_le p2.1
  have hT : T ≤ 1000000000000000 := by omega
  have hq : q ≤ 59 := by omega
  have HOK := Lib.hid (ok_wt (T : Int) l p1.1 (by omega))
  have HSW := Lib.hid (sumW_wt l)
  have HWL := Lib.hid (wt_nonneg l)
  have HWN := Lib.hid (wN_wt l)
  have HLn : Hid ((wtL l).length ≤ 40) := Lib.hid (by rw [wtL_length]; omega)
  have H64 := Lib.hid (in64_wt l)
  clear p1 p2
  go_enter Try.func9, Try.ntmps9
  go_wp2_with fail
  refine (sane_calls _).mono ?_
  rintro e w1 ⟨rfl, b1⟩
  have a1 : Hld w w1 := Lib.hid b1
  have HA1 := Lib.hid (HA.out.keep b1)
  clear b1 HA
  go_wp2_with fail
  refine (H1.out _).mono ?_
  rintro e w2 ⟨rfl, rfl⟩
  go_wp2_with fail
  refine (weights_calls l A cap _ HA1.out).mono ?_
  rintro e w2 ⟨⟨v, rfl, hv⟩, b2⟩
  have a2 := a1.step b2
  clear b2 a1 HA1
  generalize wtL l = M at *
  obtain ⟨A2, c2, rfl, hA2, hL2⟩ := hv.argL H64.out
  have HA2 := Lib.hid hA2
  have hcap := hA2.cap_
  clear hv hA2
  obtain ⟨n, hn⟩ : ∃ n, M.length = n := ⟨_, rfl⟩
  have Hn := Lib.hid hn
  have hn40 := HLn.out
  rw [hn] at hcap hn40 hL2 ⊢
  clear hn HLn
  have HL2 := Lib.hid hL2
  clear hL2
  go_wp2_with fail
  refine (H2.out _).mono ?_
  rintro e w3 ⟨rfl, rfl⟩
  have pk := pickF_lt at' ((n : Int) + 1) (by omega)
  have H3 := Lib.hid (fun W => pick_calls at' ((n : Int) + 1) W HAT.out.1 HAT.out.2 (by omega) (by omega))
  generalize pickF at' ((n : Int) + 1) = kk at *
  obtain ⟨a, rfl⟩ := Int.eq_ofNat_of_zero_le pk.1
  have han : a ≤ n := by omega
  clear pk
  go_wp2_with fail
  refine (H3.out _).mono ?_
  rintro e w3 ⟨rfl, rfl⟩
  clear H1 H2 H3
  go_wp2_with fail
  go_loopw [11, 12, 13] (fun sv cv iv wr => ∃ i s : Nat, i ≤ n ∧ iv = .int .i64 (i : Int) ∧ sv = .int .i64 (s : Int) ∧ s ≤ 400000000000000 ∧ Hid (s = sumTo (wN M) i) ∧ Hid (ScR w2 wr M q i cv)) (fun _ _ iv _ => n - (intOf iv).toNat)
  case atStart => exact ⟨0, 0, by omega, rfl, rfl, by omega, Lib.hid rfl, Lib.hid ⟨Below.refl _ _, RowI.nil _ _⟩⟩
  case round =>
    obtain ⟨i, s, hi, rfl, rfl, hs, HS, HR⟩ := hrel
    by_cases hlt : i < n
    · obtain ⟨b, o, rfl, hI⟩ : ∃ b o, A2 = some ⟨b, o, none⟩ ∧ IntsAt wr b o M := by
        rcases (HA2.out.keep HR.out.bel).ints with h | h
        · have h0 := Hn.out
          rw [h, List.length_nil] at h0
          omega
        · exact h
      have c1 := hI i (by rw [Hn.out]; exact hlt)
      rw [wN_cast M i (by rw [Hn.out]; exact hlt) HWL.out] at c1
      have hle := sumTo_part_le (wN M) i M.length (by rw [Hn.out]; exact hlt)
      have hsw := HSW.out
      have HS2 : Hid (s + wN M i = sumTo (wN M) (i + 1)) := Lib.hid (by rw [HS.out]; rfl)
      have hb2 : s + wN M i ≤ 400000000000000 := by have := HS.out; unfold sumW at hsw; omega
      have hbd := prod_bd q (wN M i) 10000000000000 hq (HWN.out i)
      obtain ⟨v3, w3, hr3, hS3⟩ := HR.out.next (by omega) _ (prod_cast q (wN M i))
      have HS3 := Lib.hid hS3
      clear hI hle hsw HS hS3 HR
      generalize wN M i = x at *
      have m0 := hbd.1
      have m1 : (1 + (q : Int)) * (x : Int) ≤ 600000000000000 := by omega
      have k0 : (0 : Int) ≤ (i : Int) := by omega
      have k1 : (i : Int) < (n : Int) := by omega
      clear hbd
      go_wp2_with (at_builtin; refine wpList_append_run rfl _ _ 29 rfl _ _ rfl rfl hr3 ?_)
      go_roundw
      case rel => exact ⟨i + 1, s + x, by omega, by go_num, by go_num, hb2, HS2, HS3⟩
      case measure => simp [intOf]; omega
    · obtain rfl : i = n := by omega
      have HSe : Hid (s = sumW M) := Lib.hid (by rw [HS.out]; unfold sumW; rw [Hn.out])
      have hrow : RowI wr w2.heap.size u12 (scL (1 + q) M) := by
        have := HR.out.row
        unfold scL
        rw [Hn.out]
        exact this
      have aR : Hld w wr := a2.step HR.out.bel
      have HA2R := Lib.hid (HA2.out.keep HR.out.bel).ints
      obtain ⟨A3, c3, h3, hA3⟩ := hrow.arg (in64_sc q M hq HWN.out)
      rw [scL_length, Hn.out] at h3
      subst h3
      have HA3 := Lib.hid hA3.ints
      have hLs : (scL (1 + q) M).length = i := by rw [scL_length, Hn.out]
      have HLs := Lib.hid hLs
      have HLi : Hid ((insL a M).length = i + 1) := Lib.hid (by rw [insL_length a M (by rw [Hn.out]; exact han), Hn.out])
      have HI64 := Lib.hid (in64_ins a M H64.out)
      have mb := prod_bd q s 400000000000000 hq hs
      rw [Int.mul_comm] at mb
      have mb1 := mb.1
      have mb2 : (s : Int) * (1 + (q : Int)) ≤ 24000000000000000 := by omega
      clear HS hlt hi HR hrow hA3 hLs a2 HA2 mb
      by_cases hok : apOk (T : Int) M
      · have HOk := Lib.hid hok
        have hn1 := apOk_len hok
        rw [Hn.out] at hn1
        obtain ⟨gM, rfl⟩ : ∃ gM, A2 = some ⟨gM, 0, none⟩ := by
          rcases HL2.out with ⟨_, _, h⟩ | h
          · omega
          · exact h
        obtain ⟨P, hP⟩ : ∃ P, apL (T : Int) M = P := ⟨_, rfl⟩
        obtain ⟨R, hR⟩ : ∃ R, apL (T : Int) (insL a M) = R := ⟨_, rfl⟩
        have HPe := Lib.hid hP
        have HRe := Lib.hid hR
        have HPl : Hid (P.length = i) := Lib.hid (by rw [← hP, apL_length, Hn.out])
        have HRl : Hid (R.length = i + 1) := Lib.hid (by rw [← hR, apL_length, HLi.out])
        have HR0 : Hid (R.getD a 0 = 0) := Lib.hid (by rw [← hR]; exact apL_new _ a M (by rw [Hn.out]; exact han) hok)
        have HRr : Hid (R.take a ++ R.drop (a + 1) = P) := Lib.hid (by rw [← hR, ← hP]; exact apL_rest _ a M (by rw [Hn.out]; exact han) hok)
        have D1 := Lib.hid (fun W h => apN_ok (T : Int) M P (some ⟨gM, 0, none⟩) c2 i W h Hn.out (by omega) HOk.out HPe.out)
        have D3 := Lib.hid (fun W A' c' h => apN_ok (T : Int) (insL a M) R A' c' (i + 1) W h HLi.out (by omega) ((apOk_ins _ a M (by rw [Hn.out]; exact han)).2 HOk.out) HRe.out)
        have DS := Lib.hid (fun W A' B' c' d' h h' => sameN P A' B' c' d' i W h h' HPl.out (by omega))
        have hnn : a < c2 ∨ (c2 = a ∧ i = a) := by omega
        clear hok hP hR
        go_wp2_with fail
        refine (D1.out _ HA2R.out).mono ?_
        rintro e w4 ⟨g, cp, rfl, hcp, hI4, b4⟩
        have a4 := aR.step b4
        have HM4 := Lib.hid (HA2R.out.keep b4)
        have HS4 := Lib.hid (HA3.out.keep b4)
        have HP4 := Lib.hid hI4.ints
        clear b4 hI4 D1 HA2R HA3
        by_cases hb : (s : Int) * (1 + (q : Int)) ≤ 1000000000000000
        case' pos =>
          have hb2 : (1 + q) * sumW M ≤ 1000000000000000 := by
            have h1 := prod_cast q s
            rw [Int.mul_comm] at h1
            rw [← HSe.out]
            omega
          have D2 := Lib.hid (fun W h => apN_ok (T : Int) (scL (1 + q) M) P A3 c3 i W h HLs.out (by omega) ((apOk_sc _ _ M (by omega) hb2 HWL.out).2 HOk.out) ((apL_sc _ _ M (by omega)).trans HPe.out))
          clear hb2
          go_wp2_with fail
          refine (D2.out _ HS4.out).mono ?_
          rintro e w5 ⟨g5, cp5, rfl, hcp5, hI5, b5⟩
          have a5 := a4.step b5
          have HM5 := Lib.hid (HM4.out.keep b5)
          have HP5 := Lib.hid (HP4.out.keep b5)
          have HQ5 := Lib.hid hI5.ints
          clear b5 hI5 D2 a4 HM4 HS4 HP4
          go_wp2_with fail
          refine (DS.out _ _ _ _ _ HP5.out HQ5.out).mono ?_
          rintro e w6 ⟨rfl, b6⟩
          have a6 := a5.step b6
          have HM6 := Lib.hid (HM5.out.keep b6)
          have HP6 := Lib.hid (HP5.out.keep b6)
          clear b6 a5 HM5 HP5 HQ5
        case' neg =>
          have kb : decide ((s : Int) * (1 + (q : Int)) ≤ 1000000000000000) = false := decide_eq_false hb
          obtain ⟨w6, rfl⟩ : ∃ w6 : World, w6 = w4 := ⟨_, rfl⟩
          have a6 := a4
          have HM6 := HM4
          have HP6 := HP4
          clear a4 HM4 HS4 HP4
        all_goals
          rcases hnn with hc0 | ⟨rfl, hia⟩
          case' inl =>
            have hc1 : ¬ c2 = a := by omega
            have k1 : (a : Int) ≤ (i : Int) := by omega
            have k2 : (a : Int) ≤ (c2 : Int) := by omega
            have k3 : (i : Int) ≤ (c2 : Int) := by omega
            have k4 : (a : Int) < (i : Int) + 1 := by omega
            have hn8 : ∀ p : Nat, i + 1 ≤ p → (a : Int) ≤ (p : Int) ∧ (i : Int) + 1 ≤ (p : Int) ∧ (a : Int) + 1 ≤ (p : Int) ∧ (¬ p = a + 1 ∨ (p = a + 1 ∧ i = a)) := fun p hp => by omega
          case' inr =>
            subst hia
            obtain ⟨a, rfl⟩ : ∃ a : Nat, a = i := ⟨_, rfl⟩
            have k4 : (a : Int) < (a : Int) + 1 := by omega
            have hn8 : ∀ p : Nat, a + 1 ≤ p → (a : Int) ≤ (p : Int) ∧ (a : Int) + 1 ≤ (p : Int) ∧ (a : Int) + 1 ≤ (p : Int) ∧ (¬ p = a + 1 ∨ (p = a + 1 ∧ a = a)) := fun p hp => by omega
          all_goals
            have k0 : (0 : Int) ≤ (a : Int) := by omega
            have hkeep : ∀ W', Hld w6 W' → Hld w6 W' ∧ True := fun W' h => ⟨h, trivial⟩
            have hd0 := Hld.refl w6
            have hszE : (w6.alloc (.cells #[] 3)).heap.size = w6.heap.size + 1 := by simp
            have hszZ : (w6.alloc (.cells #[.int .i64 0] 3)).heap.size = w6.heap.size + 1 := by simp
            have hdE := hd0.alloc (.cells #[] 3)
            have hdZ := hd0.alloc (.cells #[.int .i64 0] 3)
            have hd1 : Hld w6 ((w6.alloc (.cells #[] 3)).drew) := Lib.hid (Hid.out hdE).drew
            have hdZ' : Hld w6 ((w6.alloc (.cells #[.int .i64 0] 3)).drew) := Lib.hid (Hid.out hdZ).drew
            have hd2 : Hld w6 (((w6.alloc (.cells #[] 3)).alloc (.cells #[.int .i64 0] 3)).drew) := Lib.hid (Hid.out (hdE.alloc _)).drew
            have hd3 : Hld w6 (((w6.alloc (.cells #[.int .i64 0] 3)).alloc (.cells #[] 3)).drew) := Lib.hid (Hid.out (hdZ.alloc _)).drew
            have HV1 : Hid (RowI ((w6.alloc (.cells #[] 3)).drew) w6.heap.size (.slice (some ⟨w6.heap.size, 0, none⟩) 0 0) []) := Lib.hid (RowI.drew (RowI.empty w6 _ (Nat.le_refl _)))
            have HV2 : Hid (RowI (((w6.alloc (.cells #[] 3)).alloc (.cells #[.int .i64 0] 3)).drew) w6.heap.size (.slice (some ⟨w6.heap.size, 0, none⟩) 0 0) []) := Lib.hid (RowI.drew ((RowI.empty w6 _ (Nat.le_refl _)).alloc _))
            have HV3 : Hid (RowI (((w6.alloc (.cells #[.int .i64 0] 3)).alloc (.cells #[] 3)).drew) w6.heap.size (.slice (some ⟨w6.heap.size + 1, 0, none⟩) 0 0) []) := Lib.hid (by
              have := RowI.drew (RowI.empty (w6.alloc (.cells #[.int .i64 0] 3)) w6.heap.size hdZ.size)
              rw [hszZ] at this
              exact this)
            have HZ2 : Hid (IntsAt (((w6.alloc (.cells #[] 3)).alloc (.cells #[.int .i64 0] 3)).drew) (w6.heap.size + 1) 0 [0]) := Lib.hid (by
              have := (ints_one (w6.alloc (.cells #[] 3)) 0 3).drew
              rw [hszE] at this
              exact this)
            have HZ3 : Hid (IntsAt (((w6.alloc (.cells #[.int .i64 0] 3)).alloc (.cells #[] 3)).drew) w6.heap.size 0 [0]) := Lib.hid ((ints_one w6 0 3).keep ((Below.refl _ _).alloc (Nat.le_refl _) (.cells #[] 3))).drew
            have HT1 : Hid ((M.take a).length ≤ 40) := Lib.hid (by rw [List.length_take, Hn.out]; omega)
            have HT2 : Hid ((M.take a ++ [0]).length ≤ 41) := Lib.hid (by rw [List.length_append]; have := HT1.out; show (M.take a).length + 1 ≤ 41; omega)
            clear hdE hdZ hd0 hszE hszZ
            go_wp2_with fail
            go_region_held3 (fun w' => Hld w6 w' ∧ True)
              (first
                | exact hkeep _ (Hld.start _)
                | exact hkeep _ hld8
                | exact hkeep _ hld7
                | exact hkeep _ hld6
                | exact hkeep _ hld5
                | exact hkeep _ (Hld.alloc hld5 _)
                | exact hkeep _ hd1
                | exact hkeep _ hdZ'
                | exact hkeep _ hd2
                | exact hkeep _ hd3
                | fail "no arm fits here")
              (first
                | (go_at_call 20; (with_reducible refine (D3.out _ _ _ HA7.out).mono ?_); rintro e w8 ⟨g8, cp8, rfl, hcp8, hI8, b8⟩; have hld8 := hld7.step b8)
                | (refine step_app (by rfl) _ _ _ (by rfl) _ _ (by rfl) (by rfl) (app_rest (k := a) hld6 HM6.out (by first | exact Or.inl ⟨_, rfl, rfl⟩ | exact Or.inr (Or.inl ⟨rfl, _, rfl⟩) | exact Or.inr (Or.inr ⟨rfl, rfl, rfl⟩)) Hn.out (by omega) (by omega) hv6 (Nat.le_trans HT2.out (by decide))) ?_
                   intro v7 w7 hv7 hg7
                   have hld7 := hld6.grown hg7 hv6.lt
                   obtain ⟨A7, c7, h7, hA7⟩ := RowI.arg (l := insL a M) hv7 HI64.out
                   rw [HLi.out] at h7
                   subst h7
                   have HA7 := Lib.hid hA7.ints)
                | (refine step_app (by rfl) _ _ _ (by rfl) _ _ (by rfl) (by rfl) (app_zero hld5 HZ5.out hv5 (Nat.le_trans HT1.out (by decide))) ?_
                   intro v6 w7' hv6 hg6
                   have hld6 := hld5.grown hg6 hv5.lt)
                | (refine step_app (by rfl) _ _ _ (by rfl) _ _ (by rfl) (by rfl) (app_zero (hld5.alloc (.cells #[.int .i64 0] 3)) (ints_one w5 0 3) (hv5.alloc _) (Nat.le_trans HT1.out (by decide))) ?_
                   intro v6 w7' hv6 hg6
                   have hld6 := (hld5.alloc (.cells #[.int .i64 0] 3)).grown hg6 hv5.lt)
                | (have _hh : Hld w6 (((w6.alloc (.cells #[] 3)).alloc (.cells #[.int .i64 0] 3)).drew) ∧ True := by with_reducible assumption
                   refine step_app (by rfl) _ _ _ (by rfl) _ _ (by rfl) (by rfl) (app_take hd2 HM6.out (by first | exact Or.inr ⟨_, rfl⟩ | exact Or.inl ⟨rfl, rfl, rfl⟩) Hn.out (by omega) (by omega) HV2.out (by simp)) ?_
                   intro v5 w5 hv5 hg5
                   rw [List.nil_append] at hv5
                   have hld5 := hd2.grown hg5 HV2.out.lt
                   have HZ5 := Lib.hid (HZ2.out.grown hg5 (by simp [Value.ownBlock])))
                | (have _hh : Hld w6 (((w6.alloc (.cells #[.int .i64 0] 3)).alloc (.cells #[] 3)).drew) ∧ True := by with_reducible assumption
                   refine step_app (by rfl) _ _ _ (by rfl) _ _ (by rfl) (by rfl) (app_take hd3 HM6.out (by first | exact Or.inr ⟨_, rfl⟩ | exact Or.inl ⟨rfl, rfl, rfl⟩) Hn.out (by omega) (by omega) HV3.out (by simp)) ?_
                   intro v5 w5 hv5 hg5
                   rw [List.nil_append] at hv5
                   have hld5 := hd3.grown hg5 HV3.out.lt
                   have HZ5 := Lib.hid (HZ3.out.grown hg5 (by simp [Value.ownBlock])))
                | (have _hh : Hld w6 ((w6.alloc (.cells #[] 3)).drew) ∧ True := by with_reducible assumption
                   refine step_app (by rfl) _ _ _ (by rfl) _ _ (by rfl) (by rfl) (app_take hd1 HM6.out (by first | exact Or.inr ⟨_, rfl⟩ | exact Or.inl ⟨rfl, rfl, rfl⟩) Hn.out (by omega) (by omega) HV1.out (by simp)) ?_
                   intro v5 w5 hv5 hg5
                   rw [List.nil_append] at hv5
                   have hld5 := hd1.grown hg5 HV1.out.lt)
                | fail "no arm fits here")
            all_goals
              have a8 := a6.step (Hid.out hld8)
              have HP8 := Lib.hid (HP6.out.keep (Hid.out hld8))
              have HR8 := Lib.hid hI8.ints
              have c9 := hI8 a (by rw [HRl.out]; omega)
              rw [HR0.out, Nat.zero_add] at c9
              clear hI8 HV1 HV2 HV3 HZ2 HZ3 HT1 HT2 HA7 hkeep hd1 hdZ' hd2 hd3 hld5 hld6 hld7 a6 HM6 HP6
              go_wp2_with fail
              have hkeep9 : ∀ W', Hld w8 W' → Hld w8 W' ∧ W'.cell? ⟨g8, a, none⟩ = some (.int .i64 0) := fun W' h => ⟨h, ((Hid.out h).cell (p := ⟨g8, a, none⟩) (lt_of_cell c9)).trans c9⟩
              have hd9 : Hld w8 ((w8.alloc (.cells #[] 3)).drew) := Lib.hid (Hid.out ((Hld.refl w8).alloc (.cells #[] 3))).drew
              have HV9 : Hid (RowI ((w8.alloc (.cells #[] 3)).drew) w8.heap.size (.slice (some ⟨w8.heap.size, 0, none⟩) 0 0) []) := Lib.hid (RowI.drew (RowI.empty w8 _ (Nat.le_refl _)))
              have HT9 : Hid ((R.take a).length ≤ 41) := Lib.hid (by rw [List.length_take, HRl.out]; omega)
              obtain ⟨q0, q4, q1, hc9⟩ := hn8 cp8 hcp8
              have hle : a ≤ cp8 := by omega
              have hle2 : a + 1 ≤ cp8 := by omega
              have q5 : (0 : Int) ≤ (a : Int) + 1 := by omega
              have qw : IntKind.i64.wrap ((a : Int) + 1) = (a : Int) + 1 := IntWalk.i64_in _ (by omega)
              rcases hc9 with q2 | ⟨rfl, hia⟩
              case' inl =>
                have q6 : a + 1 < cp8 := by omega
              case' inr =>
                try (have hia2 := hia; clear hia; subst hia2; obtain ⟨a, rfl⟩ : ∃ a : Nat, a = i := ⟨_, rfl⟩)
                clear q0 q4 q1 hle hle2 hcp8
                have q0 : (a : Int) ≤ (a : Int) + 1 := by omega
                have q1 : (a : Int) + 1 ≤ (a : Int) + 1 := by omega
                have q2 : (0 : Int) ≤ (a : Int) + 1 := by omega
              all_goals
                go_region_held3 (fun w' => Hld w8 w' ∧ w'.cell? ⟨g8, a, none⟩ = some (.int .i64 0))
                  (first
                    | exact hkeep9 _ (Hld.start _)
                    | exact hkeep9 _ hld12
                    | exact hkeep9 _ hld11
                    | exact hkeep9 _ hld10
                    | exact hkeep9 _ hd9
                    | fail "no arm fits here")
                  (first
                    | (go_at_call 22; (with_reducible refine (DS.out _ _ _ _ _ HA11.out HP11.out).mono ?_); rintro e w12 ⟨rfl, b12⟩; have hld12 := hld11.step b12)
                    | (refine step_app (by rfl) _ _ _ (by rfl) _ _ (by rfl) (by rfl) (app_rest (k := a + 1) hld10 HR8.out (by first | exact Or.inl ⟨_, rfl, rfl⟩ | exact Or.inr (Or.inl ⟨rfl, _, rfl⟩)) HRl.out (by omega) (by omega) hv10 (Nat.le_trans HT9.out (by decide))) ?_
                       intro v11 w11 hv11 hg11
                       have hld11 := hld10.grown hg11 hv10.lt
                       rw [HRr.out] at hv11
                       obtain ⟨A11, c11, h11, _, hA11, _⟩ := RowI.slice hv11
                       rw [HPl.out] at h11
                       subst h11
                       have HA11 : Hid (Ints w11 A11 P) := hA11
                       have HP11 := Lib.hid (HP8.out.keep (Hid.out hld11)))
                    | (refine step_app (by rfl) _ _ _ (by rfl) _ _ (by rfl) (by rfl) (app_take hd9 HR8.out (Or.inr ⟨_, rfl⟩) HRl.out (by omega) (by omega) HV9.out (by simp)) ?_
                       intro v10 w10 hv10 hg10
                       rw [List.nil_append] at hv10
                       have hld10 := hd9.grown hg10 HV9.out.lt)
                    | fail "no arm fits here")
                all_goals
                  go_wp2_with fail
                  go_ret
                  exact ⟨rfl, Hid.out (a8.step (Hid.out hld12))⟩
      · have hs0 : s = 0 := by
          have h := HSe.out
          by_cases h1 : 1 ≤ sumW M
          · exact absurd (HOK.out.2 h1) hok
          · omega
        subst hs0
        have HNo := Lib.hid hok
        have HSc : Hid (¬ apOk (T : Int) (scL (1 + q) M)) := Lib.hid (fun h => hok ((apOk_sc _ _ M (by omega) (by rw [← HSe.out]; omega) HWL.out).1 h))
        have D1 := Lib.hid (fun W h => apN_bad (T : Int) M A2 c2 i W h Hn.out (by omega) HNo.out)
        have D2 := Lib.hid (fun W h => apN_bad (T : Int) (scL (1 + q) M) A3 c3 i W h HLs.out (by omega) HSc.out)
        have D3 := Lib.hid (fun W A' c' h => apN_bad (T : Int) (insL a M) A' c' (i + 1) W h HLi.out (by omega) (fun h => HNo.out ((apOk_ins _ a M (by rw [Hn.out]; exact han)).1 h)))
        have DS := Lib.hid (fun W => sameN [] none none 0 0 0 W (Or.inl rfl) (Or.inl rfl) rfl (by omega))
        have hnn : (A2 = none ∧ c2 = 0 ∧ i = 0) ∨ ∃ gM, A2 = some ⟨gM, 0, none⟩ ∧ (a < c2 ∨ (c2 = a ∧ i = a)) := by
          rcases HL2.out with h | ⟨gM, h⟩
          · exact Or.inl h
          · exact Or.inr ⟨gM, h, by omega⟩
        clear hok mb1 mb2
        rcases hnn with ⟨rfl, rfl, rfl⟩ | ⟨gM, rfl, hc0 | ⟨rfl, hia⟩⟩
        · obtain rfl : a = 0 := by omega
          go_wp2_with fail
          refine (D1.out _ HA2R.out).mono ?_
          rintro e w4 ⟨rfl, b4⟩
          have a4 := aR.step b4
          have HM4 := Lib.hid (HA2R.out.keep b4)
          have HS4 := Lib.hid (HA3.out.keep b4)
          clear b4 D1 HA2R HA3
          go_wp2_with fail
          refine (D2.out _ HS4.out).mono ?_
          rintro e w5 ⟨rfl, b5⟩
          have a5 := a4.step b5
          have HM5 := Lib.hid (HM4.out.keep b5)
          clear b5 D2 a4 HM4 HS4
          go_wp2_with fail
          refine (DS.out _).mono ?_
          rintro e w6 ⟨rfl, b6⟩
          have a6 := a5.step b6
          have HM6 := Lib.hid (HM5.out.keep b6)
          clear b6 a5 HM5 DS

          have hkeep : ∀ W', Hld w6 W' → Hld w6 W' ∧ True := fun W' h => ⟨h, trivial⟩
          have hd0 := Hld.refl w6
          have hszE : (w6.alloc (.cells #[] 3)).heap.size = w6.heap.size + 1 := by simp
          have hszZ : (w6.alloc (.cells #[.int .i64 0] 3)).heap.size = w6.heap.size + 1 := by simp
          have hdE := hd0.alloc (.cells #[] 3)
          have hdZ := hd0.alloc (.cells #[.int .i64 0] 3)
          have hd1 : Hld w6 ((w6.alloc (.cells #[] 3)).drew) := Lib.hid (Hid.out hdE).drew
          have hdZ' : Hld w6 ((w6.alloc (.cells #[.int .i64 0] 3)).drew) := Lib.hid (Hid.out hdZ).drew
          have hd2 : Hld w6 (((w6.alloc (.cells #[] 3)).alloc (.cells #[.int .i64 0] 3)).drew) := Lib.hid (Hid.out (hdE.alloc _)).drew
          have hd3 : Hld w6 (((w6.alloc (.cells #[.int .i64 0] 3)).alloc (.cells #[] 3)).drew) := Lib.hid (Hid.out (hdZ.alloc _)).drew
          have HV1 : Hid (RowI ((w6.alloc (.cells #[] 3)).drew) w6.heap.size (.slice (some ⟨w6.heap.size, 0, none⟩) 0 0) []) := Lib.hid (RowI.drew (RowI.empty w6 _ (Nat.le_refl _)))
          have HV2 : Hid (RowI (((w6.alloc (.cells #[] 3)).alloc (.cells #[.int .i64 0] 3)).drew) w6.heap.size (.slice (some ⟨w6.heap.size, 0, none⟩) 0 0) []) := Lib.hid (RowI.drew ((RowI.empty w6 _ (Nat.le_refl _)).alloc _))
          have HV3 : Hid (RowI (((w6.alloc (.cells #[.int .i64 0] 3)).alloc (.cells #[] 3)).drew) w6.heap.size (.slice (some ⟨w6.heap.size + 1, 0, none⟩) 0 0) []) := Lib.hid (by
            have := RowI.drew (RowI.empty (w6.alloc (.cells #[.int .i64 0] 3)) w6.heap.size hdZ.size)
            rw [hszZ] at this
            exact this)
          have HZ2 : Hid (IntsAt (((w6.alloc (.cells #[] 3)).alloc (.cells #[.int .i64 0] 3)).drew) (w6.heap.size + 1) 0 [0]) := Lib.hid (by
            have := (ints_one (w6.alloc (.cells #[] 3)) 0 3).drew
            rw [hszE] at this
            exact this)
          have HZ3 : Hid (IntsAt (((w6.alloc (.cells #[.int .i64 0] 3)).alloc (.cells #[] 3)).drew) w6.heap.size 0 [0]) := Lib.hid ((ints_one w6 0 3).keep ((Below.refl _ _).alloc (Nat.le_refl _) (.cells #[] 3))).drew
          have HT1 : Hid ((M.take 0).length ≤ 40) := Lib.hid (by rw [List.length_take, Hn.out]; omega)
          have HT2 : Hid ((M.take 0 ++ [0]).length ≤ 41) := Lib.hid (by rw [List.length_append]; have := HT1.out; show (M.take 0).length + 1 ≤ 41; omega)
          clear hdE hdZ hd0 hszE hszZ

          go_wp2_with fail

          go_region_held3 (fun w' => Hld w6 w' ∧ True)
            (first
              | exact hkeep _ (Hld.start _)
              | exact hkeep _ hld8
              | exact hkeep _ hld7
              | exact hkeep _ hld6
              | exact hkeep _ hld5
              | exact hkeep _ (Hld.alloc hld5 _)
              | exact hkeep _ hd1
              | exact hkeep _ hdZ'
              | exact hkeep _ hd2
              | exact hkeep _ hd3
              | fail "no arm fits here")
            (first
              | (go_at_call 20; (with_reducible refine (D3.out _ _ _ HA7.out).mono ?_); rintro e w8 ⟨rfl, b8⟩; have hld8 := hld7.step b8)
              | (refine step_app (by rfl) _ _ _ (by rfl) _ _ (by rfl) (by rfl) (app_rest (k := 0) hld6 HM6.out (by first | exact Or.inl ⟨_, rfl, rfl⟩ | exact Or.inr (Or.inl ⟨rfl, _, rfl⟩) | exact Or.inr (Or.inr ⟨rfl, rfl, rfl⟩)) Hn.out (by omega) (by omega) hv6 (Nat.le_trans HT2.out (by decide))) ?_
                 intro v7 w7 hv7 hg7
                 have hld7 := hld6.grown hg7 hv6.lt
                 obtain ⟨A7, c7, h7, hA7⟩ := RowI.arg (l := insL 0 M) hv7 HI64.out
                 rw [HLi.out] at h7
                 subst h7
                 have HA7 := Lib.hid hA7.ints)
              | (refine step_app (by rfl) _ _ _ (by rfl) _ _ (by rfl) (by rfl) (app_zero hld5 HZ5.out hv5 (Nat.le_trans HT1.out (by decide))) ?_
                 intro v6 w7' hv6 hg6
                 have hld6 := hld5.grown hg6 hv5.lt)
              | (refine step_app (by rfl) _ _ _ (by rfl) _ _ (by rfl) (by rfl) (app_zero (hld5.alloc (.cells #[.int .i64 0] 3)) (ints_one w5 0 3) (hv5.alloc _) (Nat.le_trans HT1.out (by decide))) ?_
                 intro v6 w7' hv6 hg6
                 have hld6 := (hld5.alloc (.cells #[.int .i64 0] 3)).grown hg6 hv5.lt)
              | (have _hh : Hld w6 (((w6.alloc (.cells #[] 3)).alloc (.cells #[.int .i64 0] 3)).drew) ∧ True := by with_reducible assumption
                 refine step_app (by rfl) _ _ _ (by rfl) _ _ (by rfl) (by rfl) (app_take hd2 HM6.out (by first | exact Or.inr ⟨_, rfl⟩ | exact Or.inl ⟨rfl, rfl, rfl⟩) Hn.out (by omega) (by omega) HV2.out (by simp)) ?_
                 intro v5 w5 hv5 hg5
                 rw [List.nil_append] at hv5
                 have hld5 := hd2.grown hg5 HV2.out.lt
                 have HZ5 := Lib.hid (HZ2.out.grown hg5 (by simp [Value.ownBlock])))
              | (have _hh : Hld w6 (((w6.alloc (.cells #[.int .i64 0] 3)).alloc (.cells #[] 3)).drew) ∧ True := by with_reducible assumption
                 refine step_app (by rfl) _ _ _ (by rfl) _ _ (by rfl) (by rfl) (app_take hd3 HM6.out (by first | exact Or.inr ⟨_, rfl⟩ | exact Or.inl ⟨rfl, rfl, rfl⟩) Hn.out (by omega) (by omega) HV3.out (by simp)) ?_
                 intro v5 w5 hv5 hg5
                 rw [List.nil_append] at hv5
                 have hld5 := hd3.grown hg5 HV3.out.lt
                 have HZ5 := Lib.hid (HZ3.out.grown hg5 (by simp [Value.ownBlock])))
              | (have _hh : Hld w6 ((w6.alloc (.cells #[] 3)).drew) ∧ True := by with_reducible assumption
                 refine step_app (by rfl) _ _ _ (by rfl) _ _ (by rfl) (by rfl) (app_take hd1 HM6.out (by first | exact Or.inr ⟨_, rfl⟩ | exact Or.inl ⟨rfl, rfl, rfl⟩) Hn.out (by omega) (by omega) HV1.out (by simp)) ?_
                 intro v5 w5 hv5 hg5
                 rw [List.nil_append] at hv5
                 have hld5 := hd1.grown hg5 HV1.out.lt)
              | fail "no arm fits here")

          all_goals
            have a8 := a6.step (Hid.out hld8)
            go_wp2_with fail
            go_ret
            exact ⟨rfl, Hid.out a8⟩
        · have hc1 : ¬ c2 = a := by omega
          have k0 : (0 : Int) ≤ (a : Int) := by omega
          have k1 : (a : Int) ≤ (i : Int) := by omega
          have k2 : (a : Int) ≤ (c2 : Int) := by omega
          have k3 : (i : Int) ≤ (c2 : Int) := by omega
          go_wp2_with fail
          refine (D1.out _ HA2R.out).mono ?_
          rintro e w4 ⟨rfl, b4⟩
          have a4 := aR.step b4
          have HM4 := Lib.hid (HA2R.out.keep b4)
          have HS4 := Lib.hid (HA3.out.keep b4)
          clear b4 D1 HA2R HA3
          go_wp2_with fail
          refine (D2.out _ HS4.out).mono ?_
          rintro e w5 ⟨rfl, b5⟩
          have a5 := a4.step b5
          have HM5 := Lib.hid (HM4.out.keep b5)
          clear b5 D2 a4 HM4 HS4
          go_wp2_with fail
          refine (DS.out _).mono ?_
          rintro e w6 ⟨rfl, b6⟩
          have a6 := a5.step b6
          have HM6 := Lib.hid (HM5.out.keep b6)
          clear b6 a5 HM5 DS

          have hkeep : ∀ W', Hld w6 W' → Hld w6 W' ∧ True := fun W' h => ⟨h, trivial⟩
          have hd0 := Hld.refl w6
          have hszE : (w6.alloc (.cells #[] 3)).heap.size = w6.heap.size + 1 := by simp
          have hszZ : (w6.alloc (.cells #[.int .i64 0] 3)).heap.size = w6.heap.size + 1 := by simp
          have hdE := hd0.alloc (.cells #[] 3)
          have hdZ := hd0.alloc (.cells #[.int .i64 0] 3)
          have hd1 : Hld w6 ((w6.alloc (.cells #[] 3)).drew) := Lib.hid (Hid.out hdE).drew
          have hdZ' : Hld w6 ((w6.alloc (.cells #[.int .i64 0] 3)).drew) := Lib.hid (Hid.out hdZ).drew
          have hd2 : Hld w6 (((w6.alloc (.cells #[] 3)).alloc (.cells #[.int .i64 0] 3)).drew) := Lib.hid (Hid.out (hdE.alloc _)).drew
          have hd3 : Hld w6 (((w6.alloc (.cells #[.int .i64 0] 3)).alloc (.cells #[] 3)).drew) := Lib.hid (Hid.out (hdZ.alloc _)).drew
          have HV1 : Hid (RowI ((w6.alloc (.cells #[] 3)).drew) w6.heap.size (.slice (some ⟨w6.heap.size, 0, none⟩) 0 0) []) := Lib.hid (RowI.drew (RowI.empty w6 _ (Nat.le_refl _)))
          have HV2 : Hid (RowI (((w6.alloc (.cells #[] 3)).alloc (.cells #[.int .i64 0] 3)).drew) w6.heap.size (.slice (some ⟨w6.heap.size, 0, none⟩) 0 0) []) := Lib.hid (RowI.drew ((RowI.empty w6 _ (Nat.le_refl _)).alloc _))
          have HV3 : Hid (RowI (((w6.alloc (.cells #[.int .i64 0] 3)).alloc (.cells #[] 3)).drew) w6.heap.size (.slice (some ⟨w6.heap.size + 1, 0, none⟩) 0 0) []) := Lib.hid (by
            have := RowI.drew (RowI.empty (w6.alloc (.cells #[.int .i64 0] 3)) w6.heap.size hdZ.size)
            rw [hszZ] at this
            exact this)
          have HZ2 : Hid (IntsAt (((w6.alloc (.cells #[] 3)).alloc (.cells #[.int .i64 0] 3)).drew) (w6.heap.size + 1) 0 [0]) := Lib.hid (by
            have := (ints_one (w6.alloc (.cells #[] 3)) 0 3).drew
            rw [hszE] at this
            exact this)
          have HZ3 : Hid (IntsAt (((w6.alloc (.cells #[.int .i64 0] 3)).alloc (.cells #[] 3)).drew) w6.heap.size 0 [0]) := Lib.hid ((ints_one w6 0 3).keep ((Below.refl _ _).alloc (Nat.le_refl _) (.cells #[] 3))).drew
          have HT1 : Hid ((M.take a).length ≤ 40) := Lib.hid (by rw [List.length_take, Hn.out]; omega)
          have HT2 : Hid ((M.take a ++ [0]).length ≤ 41) := Lib.hid (by rw [List.length_append]; have := HT1.out; show (M.take a).length + 1 ≤ 41; omega)
          clear hdE hdZ hd0 hszE hszZ

          go_wp2_with fail

          go_region_held3 (fun w' => Hld w6 w' ∧ True)
            (first
              | exact hkeep _ (Hld.start _)
              | exact hkeep _ hld8
              | exact hkeep _ hld7
              | exact hkeep _ hld6
              | exact hkeep _ hld5
              | exact hkeep _ (Hld.alloc hld5 _)
              | exact hkeep _ hd1
              | exact hkeep _ hdZ'
              | exact hkeep _ hd2
              | exact hkeep _ hd3
              | fail "no arm fits here")
            (first
              | (go_at_call 20; (with_reducible refine (D3.out _ _ _ HA7.out).mono ?_); rintro e w8 ⟨rfl, b8⟩; have hld8 := hld7.step b8)
              | (refine step_app (by rfl) _ _ _ (by rfl) _ _ (by rfl) (by rfl) (app_rest (k := a) hld6 HM6.out (by first | exact Or.inl ⟨_, rfl, rfl⟩ | exact Or.inr (Or.inl ⟨rfl, _, rfl⟩) | exact Or.inr (Or.inr ⟨rfl, rfl, rfl⟩)) Hn.out (by omega) (by omega) hv6 (Nat.le_trans HT2.out (by decide))) ?_
                 intro v7 w7 hv7 hg7
                 have hld7 := hld6.grown hg7 hv6.lt
                 obtain ⟨A7, c7, h7, hA7⟩ := RowI.arg (l := insL a M) hv7 HI64.out
                 rw [HLi.out] at h7
                 subst h7
                 have HA7 := Lib.hid hA7.ints)
              | (refine step_app (by rfl) _ _ _ (by rfl) _ _ (by rfl) (by rfl) (app_zero hld5 HZ5.out hv5 (Nat.le_trans HT1.out (by decide))) ?_
                 intro v6 w7' hv6 hg6
                 have hld6 := hld5.grown hg6 hv5.lt)
              | (refine step_app (by rfl) _ _ _ (by rfl) _ _ (by rfl) (by rfl) (app_zero (hld5.alloc (.cells #[.int .i64 0] 3)) (ints_one w5 0 3) (hv5.alloc _) (Nat.le_trans HT1.out (by decide))) ?_
                 intro v6 w7' hv6 hg6
                 have hld6 := (hld5.alloc (.cells #[.int .i64 0] 3)).grown hg6 hv5.lt)
              | (have _hh : Hld w6 (((w6.alloc (.cells #[] 3)).alloc (.cells #[.int .i64 0] 3)).drew) ∧ True := by with_reducible assumption
                 refine step_app (by rfl) _ _ _ (by rfl) _ _ (by rfl) (by rfl) (app_take hd2 HM6.out (by first | exact Or.inr ⟨_, rfl⟩ | exact Or.inl ⟨rfl, rfl, rfl⟩) Hn.out (by omega) (by omega) HV2.out (by simp)) ?_
                 intro v5 w5 hv5 hg5
                 rw [List.nil_append] at hv5
                 have hld5 := hd2.grown hg5 HV2.out.lt
                 have HZ5 := Lib.hid (HZ2.out.grown hg5 (by simp [Value.ownBlock])))
              | (have _hh : Hld w6 (((w6.alloc (.cells #[.int .i64 0] 3)).alloc (.cells #[] 3)).drew) ∧ True := by with_reducible assumption
                 refine step_app (by rfl) _ _ _ (by rfl) _ _ (by rfl) (by rfl) (app_take hd3 HM6.out (by first | exact Or.inr ⟨_, rfl⟩ | exact Or.inl ⟨rfl, rfl, rfl⟩) Hn.out (by omega) (by omega) HV3.out (by simp)) ?_
                 intro v5 w5 hv5 hg5
                 rw [List.nil_append] at hv5
                 have hld5 := hd3.grown hg5 HV3.out.lt
                 have HZ5 := Lib.hid (HZ3.out.grown hg5 (by simp [Value.ownBlock])))
              | (have _hh : Hld w6 ((w6.alloc (.cells #[] 3)).drew) ∧ True := by with_reducible assumption
                 refine step_app (by rfl) _ _ _ (by rfl) _ _ (by rfl) (by rfl) (app_take hd1 HM6.out (by first | exact Or.inr ⟨_, rfl⟩ | exact Or.inl ⟨rfl, rfl, rfl⟩) Hn.out (by omega) (by omega) HV1.out (by simp)) ?_
                 intro v5 w5 hv5 hg5
                 rw [List.nil_append] at hv5
                 have hld5 := hd1.grown hg5 HV1.out.lt)
              | fail "no arm fits here")

          all_goals
            have a8 := a6.step (Hid.out hld8)
            go_wp2_with fail
            go_ret
            exact ⟨rfl, Hid.out a8⟩
        · subst hia
          obtain ⟨a, rfl⟩ : ∃ a : Nat, a = i := ⟨_, rfl⟩
          have k0 : (0 : Int) ≤ (a : Int) := by omega
          go_wp2_with fail
          refine (D1.out _ HA2R.out).mono ?_
          rintro e w4 ⟨rfl, b4⟩
          have a4 := aR.step b4
          have HM4 := Lib.hid (HA2R.out.keep b4)
          have HS4 := Lib.hid (HA3.out.keep b4)
          clear b4 D1 HA2R HA3
          go_wp2_with fail
          refine (D2.out _ HS4.out).mono ?_
          rintro e w5 ⟨rfl, b5⟩
          have a5 := a4.step b5
          have HM5 := Lib.hid (HM4.out.keep b5)
          clear b5 D2 a4 HM4 HS4
          go_wp2_with fail
          refine (DS.out _).mono ?_
          rintro e w6 ⟨rfl, b6⟩
          have a6 := a5.step b6
          have HM6 := Lib.hid (HM5.out.keep b6)
          clear b6 a5 HM5 DS

          have hkeep : ∀ W', Hld w6 W' → Hld w6 W' ∧ True := fun W' h => ⟨h, trivial⟩
          have hd0 := Hld.refl w6
          have hszE : (w6.alloc (.cells #[] 3)).heap.size = w6.heap.size + 1 := by simp
          have hszZ : (w6.alloc (.cells #[.int .i64 0] 3)).heap.size = w6.heap.size + 1 := by simp
          have hdE := hd0.alloc (.cells #[] 3)
          have hdZ := hd0.alloc (.cells #[.int .i64 0] 3)
          have hd1 : Hld w6 ((w6.alloc (.cells #[] 3)).drew) := Lib.hid (Hid.out hdE).drew
          have hdZ' : Hld w6 ((w6.alloc (.cells #[.int .i64 0] 3)).drew) := Lib.hid (Hid.out hdZ).drew
          have hd2 : Hld w6 (((w6.alloc (.cells #[] 3)).alloc (.cells #[.int .i64 0] 3)).drew) := Lib.hid (Hid.out (hdE.alloc _)).drew
          have hd3 : Hld w6 (((w6.alloc (.cells #[.int .i64 0] 3)).alloc (.cells #[] 3)).drew) := Lib.hid (Hid.out (hdZ.alloc _)).drew
          have HV1 : Hid (RowI ((w6.alloc (.cells #[] 3)).drew) w6.heap.size (.slice (some ⟨w6.heap.size, 0, none⟩) 0 0) []) := Lib.hid (RowI.drew (RowI.empty w6 _ (Nat.le_refl _)))
          have HV2 : Hid (RowI (((w6.alloc (.cells #[] 3)).alloc (.cells #[.int .i64 0] 3)).drew) w6.heap.size (.slice (some ⟨w6.heap.size, 0, none⟩) 0 0) []) := Lib.hid (RowI.drew ((RowI.empty w6 _ (Nat.le_refl _)).alloc _))
          have HV3 : Hid (RowI (((w6.alloc (.cells #[.int .i64 0] 3)).alloc (.cells #[] 3)).drew) w6.heap.size (.slice (some ⟨w6.heap.size + 1, 0, none⟩) 0 0) []) := Lib.hid (by
            have := RowI.drew (RowI.empty (w6.alloc (.cells #[.int .i64 0] 3)) w6.heap.size hdZ.size)
            rw [hszZ] at this
            exact this)
          have HZ2 : Hid (IntsAt (((w6.alloc (.cells #[] 3)).alloc (.cells #[.int .i64 0] 3)).drew) (w6.heap.size + 1) 0 [0]) := Lib.hid (by
            have := (ints_one (w6.alloc (.cells #[] 3)) 0 3).drew
            rw [hszE] at this
            exact this)
          have HZ3 : Hid (IntsAt (((w6.alloc (.cells #[.int .i64 0] 3)).alloc (.cells #[] 3)).drew) w6.heap.size 0 [0]) := Lib.hid ((ints_one w6 0 3).keep ((Below.refl _ _).alloc (Nat.le_refl _) (.cells #[] 3))).drew
          have HT1 : Hid ((M.take a).length ≤ 40) := Lib.hid (by rw [List.length_take, Hn.out]; omega)
          have HT2 : Hid ((M.take a ++ [0]).length ≤ 41) := Lib.hid (by rw [List.length_append]; have := HT1.out; show (M.take a).length + 1 ≤ 41; omega)
          clear hdE hdZ hd0 hszE hszZ

          go_wp2_with fail

          go_region_held3 (fun w' => Hld w6 w' ∧ True)
            (first
              | exact hkeep _ (Hld.start _)
              | exact hkeep _ hld8
              | exact hkeep _ hld7
              | exact hkeep _ hld6
              | exact hkeep _ hld5
              | exact hkeep _ (Hld.alloc hld5 _)
              | exact hkeep _ hd1
              | exact hkeep _ hdZ'
              | exact hkeep _ hd2
              | exact hkeep _ hd3
              | fail "no arm fits here")
            (first
              | (go_at_call 20; (with_reducible refine (D3.out _ _ _ HA7.out).mono ?_); rintro e w8 ⟨rfl, b8⟩; have hld8 := hld7.step b8)
              | (refine step_app (by rfl) _ _ _ (by rfl) _ _ (by rfl) (by rfl) (app_rest (k := a) hld6 HM6.out (by first | exact Or.inl ⟨_, rfl, rfl⟩ | exact Or.inr (Or.inl ⟨rfl, _, rfl⟩) | exact Or.inr (Or.inr ⟨rfl, rfl, rfl⟩)) Hn.out (by omega) (by omega) hv6 (Nat.le_trans HT2.out (by decide))) ?_
                 intro v7 w7 hv7 hg7
                 have hld7 := hld6.grown hg7 hv6.lt
                 obtain ⟨A7, c7, h7, hA7⟩ := RowI.arg (l := insL a M) hv7 HI64.out
                 rw [HLi.out] at h7
                 subst h7
                 have HA7 := Lib.hid hA7.ints)
              | (refine step_app (by rfl) _ _ _ (by rfl) _ _ (by rfl) (by rfl) (app_zero hld5 HZ5.out hv5 (Nat.le_trans HT1.out (by decide))) ?_
                 intro v6 w7' hv6 hg6
                 have hld6 := hld5.grown hg6 hv5.lt)
              | (refine step_app (by rfl) _ _ _ (by rfl) _ _ (by rfl) (by rfl) (app_zero (hld5.alloc (.cells #[.int .i64 0] 3)) (ints_one w5 0 3) (hv5.alloc _) (Nat.le_trans HT1.out (by decide))) ?_
                 intro v6 w7' hv6 hg6
                 have hld6 := (hld5.alloc (.cells #[.int .i64 0] 3)).grown hg6 hv5.lt)
              | (have _hh : Hld w6 (((w6.alloc (.cells #[] 3)).alloc (.cells #[.int .i64 0] 3)).drew) ∧ True := by with_reducible assumption
                 refine step_app (by rfl) _ _ _ (by rfl) _ _ (by rfl) (by rfl) (app_take hd2 HM6.out (by first | exact Or.inr ⟨_, rfl⟩ | exact Or.inl ⟨rfl, rfl, rfl⟩) Hn.out (by omega) (by omega) HV2.out (by simp)) ?_
                 intro v5 w5 hv5 hg5
                 rw [List.nil_append] at hv5
                 have hld5 := hd2.grown hg5 HV2.out.lt
                 have HZ5 := Lib.hid (HZ2.out.grown hg5 (by simp [Value.ownBlock])))
              | (have _hh : Hld w6 (((w6.alloc (.cells #[.int .i64 0] 3)).alloc (.cells #[] 3)).drew) ∧ True := by with_reducible assumption
                 refine step_app (by rfl) _ _ _ (by rfl) _ _ (by rfl) (by rfl) (app_take hd3 HM6.out (by first | exact Or.inr ⟨_, rfl⟩ | exact Or.inl ⟨rfl, rfl, rfl⟩) Hn.out (by omega) (by omega) HV3.out (by simp)) ?_
                 intro v5 w5 hv5 hg5
                 rw [List.nil_append] at hv5
                 have hld5 := hd3.grown hg5 HV3.out.lt
                 have HZ5 := Lib.hid (HZ3.out.grown hg5 (by simp [Value.ownBlock])))
              | (have _hh : Hld w6 ((w6.alloc (.cells #[] 3)).drew) ∧ True := by with_reducible assumption
                 refine step_app (by rfl) _ _ _ (by rfl) _ _ (by rfl) (by rfl) (app_take hd1 HM6.out (by first | exact Or.inr ⟨_, rfl⟩ | exact Or.inl ⟨rfl, rfl, rfl⟩) Hn.out (by omega) (by omega) HV1.out (by simp)) ?_
                 intro v5 w5 hv5 hg5
                 rw [List.nil_append] at hv5
                 have hld5 := hd1.grown hg5 HV1.out.lt)
              | fail "no arm fits here")

          all_goals
            have a8 := a6.step (Hid.out hld8)
            go_wp2_with fail
            go_ret
            exact ⟨rfl, Hid.out a8⟩
end Go.Proofs.Ytediphiebamffaa
