/- Contracts of slices.IndexFunc, base.first and base.Rate. | Contracts of base.Contract and base.Method. | The plain side of the laws' sane: what the fixed calls answer. -/
import Derived.Test.YtngkfopdlkddnaaK32
import Derived.Test.YtngkfopdlkddnaaK31
import Derived.Test.YtngkfopdlkddnaaK29
namespace Go.Proofs.Ytngkfopdlkddnaa
open Go Go.RowKit Go.Maps
/-- The first place. -/
def IdxP (pr : Fa → Bool) (l : List Fa) (r : Int) : Prop := (r = -1 ∧ ∀ j, j < l.length → pr (l.getD j zeroA) = false) ∨ ∃ k : Nat, k < l.length ∧ r = k ∧ pr (l.getD k zeroA) = true ∧ ∀ j, j < k → pr (l.getD j zeroA) = false
theorem find_none {pr : Fa → Bool} {l : List Fa} (h : ∀ j, j < l.length → pr (l.getD j zeroA) = false) : l.find? pr = none := by
  rw [List.find?_eq_none]
  intro f hf
  obtain ⟨j, hj, rfl⟩ := List.getElem_of_mem hf
  have := h j hj
  rw [List.getD_eq_getElem?_getD, List.getElem?_eq_getElem hj] at this
  simpa using this
theorem find_at {pr : Fa → Bool} {l : List Fa} {k : Nat} (hk : k < l.length) (h1 : pr (l.getD k zeroA) = true) (h : ∀ j, j < k → pr (l.getD j zeroA) = false) : l.find? pr = some (l.getD k zeroA) := by
  induction l generalizing k with
  | nil => simp at hk
  | cons f r ih =>
    cases k with
    | zero => simp only [List.getD_cons_zero] at h1 ⊢; simp [h1]
    | succ k =>
      have h0 := h 0 (by omega)
      simp only [List.getD_cons_zero] at h0
      rw [List.find?_cons, h0]
      simp only [List.getD_cons_succ] at h1 ⊢
      exact ih (by simpa using hk) h1 (fun j hj => by have := h (j + 1) (by omega); simpa using this)
def rateP (cur p : Int) (f : Fa) : Bool := f.1 15 == cur && f.1 3 == p
set_option maxRecDepth 100000 in
theorem rate1_calls (v : Nat → Int) (t : ByteArray) (c d : Nat) (cur p : Int) (w : World) (hc : w.cell? ⟨c, 0, none⟩ = some (.int .i64 cur)) (hd : w.cell? ⟨d, 0, none⟩ = some (.int .i64 p)) :
    Calls Try.prog 42 #[.agg (factC v t), .pointer (some ⟨c, 0, none⟩), .pointer (some ⟨d, 0, none⟩)] w fun e W' => e = .returned (.bool (rateP cur p (v, t))) ∧ Below w.heap.size w W' := by
  cases h1 : (v 15 == cur) with
  | false =>
    have hr : rateP cur p (v, t) = false := by unfold rateP; rw [show ((v, t) : Fa).1 15 = v 15 from rfl, h1]; rfl
    rw [hr]
    clear hr
    go_enter Try.func42, Try.ntmps42
    go_upto_region 1 with (fail)
    obtain ⟨W0, hW0, f0, b0⟩ := one_row w (factC v t) 29
    rw [hW0]
    have c1 := Hl.cell b0 hc
    have c2 := Hl.cell b0 hd
    have c3 := (row18 f0).2.2.2.1
    have c15 := (row18 f0).2.2.2.2.2.2.2.2.2.2.2.2.2.2.2.1
    have B0 := Lib.hid b0
    clear hW0 f0 b0 hc hd
    go_wp2_with fail
    go_ret
    exact ⟨rfl, B0.out⟩
  | true =>
    obtain ⟨x, h2⟩ : ∃ x, (v 3 == p) = x := ⟨_, rfl⟩
    have hr : rateP cur p (v, t) = x := by unfold rateP; rw [show ((v, t) : Fa).1 15 = v 15 from rfl, show ((v, t) : Fa).1 3 = v 3 from rfl, h1, h2]; rfl
    rw [hr]
    clear hr
    go_enter Try.func42, Try.ntmps42
    go_upto_region 1 with (fail)
    obtain ⟨W0, hW0, f0, b0⟩ := one_row w (factC v t) 29
    rw [hW0]
    have c1 := Hl.cell b0 hc
    have c2 := Hl.cell b0 hd
    have c3 := (row18 f0).2.2.2.1
    have c15 := (row18 f0).2.2.2.2.2.2.2.2.2.2.2.2.2.2.2.1
    have B0 := Lib.hid b0
    clear hW0 f0 b0 hc hd
    cases x <;>
    · go_wp2_with fail
      go_ret
      exact ⟨rfl, B0.out⟩
set_option maxRecDepth 100000 in
set_option maxHeartbeats 4000000 in
theorem indexR_calls (pr : Fa → Bool) (c d : Nat) (A : Option Addr) (l : List Fa) (cap : Nat) (w : World) (hA : FactsS w A l) (_hl : l.length ≤ 1000000)
    (hP : ∀ v t W, Below w.heap.size w W → Calls Try.prog 42 #[.agg (factC v t), .pointer (some ⟨c, 0, none⟩), .pointer (some ⟨d, 0, none⟩)] W fun e W' => e = .returned (.bool (pr (v, t))) ∧ Below W.heap.size W W') :
    Calls Try.prog 62 #[.slice A l.length cap, .func (.func 42) #[] #[.pointer (some ⟨c, 0, none⟩), .pointer (some ⟨d, 0, none⟩)]] w fun e W' => (∃ r, e = .returned (.int .i64 r) ∧ IdxP pr l r) ∧ Below w.heap.size w W' := by
  have HA := Lib.hid hA
  have HP := Lib.hid hP
  clear hA hP
  go_enter Try.func62, Try.ntmps62
  go_upto_region 2 with (fail)
  go_loopw [8] (fun iv wr => ∃ k : Nat, k ≤ l.length ∧ iv = .int .i64 k ∧ Hid (∀ j, j < k → pr (l.getD j zeroA) = false) ∧ Hid (Below w.heap.size w wr)) (fun iv _ => l.length - (intOf iv).toNat)
  case atStart => exact ⟨0, by omega, rfl, Lib.hid (fun j h => absurd h (by omega)), Lib.hid (Below.refl _ _)⟩
  case round =>
    obtain ⟨k, hk, rfl, HN, HW⟩ := hrel
    have k0 : (0 : Int) ≤ (k : Int) := by omega
    by_cases hlt : k < l.length
    rotate_left
    · obtain rfl : k = l.length := by omega
      have k1 : (l.length : Int) ≤ (l.length : Int) := by omega
      clear hlt hk
      go_wp2_with fail
      go_ret
      exact ⟨⟨_, rfl, .inl ⟨rfl, HN.out⟩⟩, HW.out⟩
    · have k1 : (k : Int) < (l.length : Int) := by omega
      rcases HA.out with hz | ⟨b, o, rfl, hst⟩
      · rw [hz] at hlt; exact absurd hlt (by simp)
      have HAT := Lib.hid (hst.keep HW.out k hlt)
      clear hst
      generalize hf : l.getD k zeroA = f at *
      obtain ⟨v, t⟩ := f
      have HF := Lib.hid hf
      clear hf
      have hc := HP.out v t wr HW.out
      cases hx : pr (v, t) with
      | false =>
        rw [hx] at hc
        have HX := Lib.hid hx
        clear hx
        go_wp2_with (refine wpList_load_at rfl _ rfl _ _ rfl v t HAT.out ?_)
        refine hc.mono ?_
        rintro e W6 ⟨rfl, b6⟩
        go_wp2_with fail
        go_roundw
        case rel => exact ⟨k + 1, by omega, by go_num, Lib.hid (fun j hj => by
          by_cases e : j = k
          · rw [e, HF.out]; exact HX.out
          · exact HN.out j (by omega)), Lib.hid (HW.out.trans (Below.mono b6 HW.out.size))⟩
        case measure => simp [intOf]; omega
      | true =>
        rw [hx] at hc
        have HX := Lib.hid hx
        clear hx
        go_wp2_with (refine wpList_load_at rfl _ rfl _ _ rfl v t HAT.out ?_)
        refine hc.mono ?_
        rintro e W6 ⟨rfl, b6⟩
        go_wp2_with fail
        go_ret
        exact ⟨⟨_, rfl, .inr ⟨k, hlt, rfl, by rw [HF.out]; exact HX.out, HN.out⟩⟩, HW.out.trans (Below.mono b6 HW.out.size)⟩
set_option maxRecDepth 100000 in
set_option maxHeartbeats 4000000 in
theorem firstR_calls (pr : Fa → Bool) (c d : Nat) (A : Option Addr) (l : List Fa) (cap : Nat) (w : World) (hA : FactsS w A l) (hl : l.length ≤ 1000000) (htx : ∀ f ∈ l, f.2.size ≤ 281474976710656)
    (hP : ∀ v t W, Below w.heap.size w W → Calls Try.prog 42 #[.agg (factC v t), .pointer (some ⟨c, 0, none⟩), .pointer (some ⟨d, 0, none⟩)] W fun e W' => e = .returned (.bool (pr (v, t))) ∧ Below W.heap.size W W') :
    Calls Try.prog 41 #[.slice A l.length cap, .func (.func 42) #[] #[.pointer (some ⟨c, 0, none⟩), .pointer (some ⟨d, 0, none⟩)]] w fun e W' => (∃ v t b, e = .returned (.tuple #[.agg (factC v t), .bool b]) ∧ outF (l.find? pr) = .tuple #[.agg (factC v t), .bool b]) ∧ Below w.heap.size w W' := by
  have HA := Lib.hid hA
  have HP := Lib.hid hP
  have HTX := Lib.hid htx
  clear hA hP htx
  go_enter Try.func41, Try.ntmps41
  go_upto_region 1 with (fail)
  obtain ⟨W0, hW0, f0, b0⟩ := one_row w (factC (fun _ => 0) ⟨#[]⟩) 29
  rw [hW0]
  clear hW0
  have F0 := Lib.hid f0
  have B0 := Lib.hid b0
  clear f0 b0
  go_wp2_with fail
  refine (indexR_calls pr c d A l cap W0 (HA.out.keep B0.out) hl (fun v t W hW => HP.out v t W (B0.out.trans (Below.mono hW B0.out.size)))).mono ?_
  rintro e W1 ⟨⟨r, rfl, hr⟩, b1⟩
  have F1 := Lib.hid (Hl.row b1 F0.out)
  have B1 := Lib.hid (B0.out.trans (Below.mono b1 B0.out.size))
  clear b1 F0 B0
  rcases hr with ⟨rfl, hn⟩ | ⟨k, hk, rfl, h1, hn⟩
  · have HN := Lib.hid hn
    clear hn
    have hone := factC_one (fun _ => 0) ⟨#[]⟩
    go_wp2_with (refine wpList_store_row rfl 29 _ _ rfl w.heap.size (factC (fun _ => 0) ⟨#[]⟩) rfl rfl 29 _ F1.out (hiC _ _) rfl hone ?_)
    refine bodyPost_ret (v := .tuple #[.agg (factC (fun _ => 0) ⟨#[]⟩), .bool false]) ?_ rfl ?_
    · exact results_fact_tmp rfl _ _ w.heap.size _ _ _ rfl (setRow_heap _ w.heap.size _ _ 29 (0, 0) F1.out) rfl
    · exact ⟨⟨_, _, _, rfl, by rw [find_none HN.out]; rfl⟩, below_setRow' B1.out _ _ (by omega)⟩
  · have j0 : (0 : Int) ≤ (k : Int) := by omega
    have j1 : (k : Int) < (l.length : Int) := by omega
    rcases HA.out with hz | ⟨b, o, rfl, hst⟩
    · rw [hz] at hk; exact absurd hk (by simp)
    have HAT := Lib.hid (hst.keep B1.out k hk)
    have HSZ := Lib.hid (HTX.out _ (show l.getD k zeroA ∈ l by rw [List.getD_eq_getElem?_getD, List.getElem?_eq_getElem hk]; exact List.getElem_mem hk))
    have HFI := Lib.hid (find_at hk h1 hn)
    clear hst h1 hn
    generalize l.getD k zeroA = f at *
    obtain ⟨v, t⟩ := f
    have HAP := Lib.hid (fun W => apart_calls v t W HSZ.out)
    go_wp2_with (refine wpList_load_at rfl _ rfl _ _ rfl v t HAT.out ?_)
    refine (HAP.out _).mono ?_
    rintro e W2 ⟨rfl, b2⟩
    have F2 := Lib.hid (Hl.row b2 F1.out)
    have B2 := Lib.hid (B1.out.trans (Below.mono b2 B1.out.size))
    clear b2 F1 B1 HAT
    have hone := factC_one v t
    go_wp2_with (refine wpList_store_row rfl 29 _ _ rfl w.heap.size (factC v t) rfl rfl 29 _ F2.out (hiC _ _) rfl hone ?_)
    refine bodyPost_ret (v := .tuple #[.agg (factC v t), .bool true]) ?_ rfl ?_
    · exact results_fact_tmp rfl _ _ w.heap.size _ _ _ rfl (setRow_heap _ w.heap.size _ _ 29 (0, 0) F2.out) rfl
    · exact ⟨⟨_, _, _, rfl, by rw [HFI.out]; rfl⟩, below_setRow' B2.out _ _ (by omega)⟩
def rateF (o : Option Fa) : Value := .tuple #[.int .i64 ((o.getD zeroA).1 13), .bool o.isSome]
set_option maxRecDepth 100000 in
theorem Rate_zero (vs : Nat → Value) (p : Int) (w : World) :
    Calls Try.prog 22 #[.agg (cells10 vs), .int .i64 0, .int .i64 p] w fun e W' => e = .returned (.tuple #[.int .i64 1000000, .bool true]) ∧ Below w.heap.size w W' := by
  go_enter Try.func22, Try.ntmps22
  go_upto_region 1 with (fail)
  obtain ⟨W0, hW0, c0, b0⟩ : ∃ W0, ((w.alloc (.cells (cells10 vs) 32)).alloc (.cells #[.int .i64 0] 3)).alloc (.cells #[.int .i64 p] 3) = W0 ∧ W0.cell? ⟨w.heap.size + 1, 0, none⟩ = some (.int .i64 0) ∧ Below w.heap.size w W0 :=
    ⟨_, rfl, by
      have h1 := heap_new (w.alloc (.cells (cells10 vs) 32)) (.cells #[.int .i64 0] 3)
      have h2 := (Below.refl _ ((w.alloc (.cells (cells10 vs) 32)).alloc (.cells #[.int .i64 0] 3))).alloc (Nat.le_refl _) (.cells #[.int .i64 p] 3)
      have h3 := (h2.block _ (Array.getElem?_eq_some_iff.1 h1).1).trans h1
      rw [show (w.alloc (.cells (cells10 vs) 32)).heap.size = w.heap.size + 1 by simp] at h3
      rw [cell_of_row _ _ _ _ _ _ h3]; rfl, (((Below.refl _ w).alloc (Nat.le_refl _) _).alloc (by simp) _).alloc (by simp; omega) _⟩
  rw [hW0]
  have B0 := Lib.hid b0
  clear hW0 b0
  go_wp2_with fail
  go_ret2
  exact ⟨rfl, B0.out⟩
set_option maxRecDepth 100000 in
set_option maxHeartbeats 4000000 in
theorem Rate_calls (vs : Nat → Value) (Ls : Nat → List Fa) (cur p : Int) (w : World) (hcur : (cur == 0) = false) (hv : SlB w vs Ls) (htx : ∀ f ∈ Ls 6, f.2.size ≤ 281474976710656) :
    Calls Try.prog 22 #[.agg (cells10 vs), .int .i64 cur, .int .i64 p] w fun e W' => e = .returned (rateF ((Ls 6).find? (rateP cur p))) ∧ Below w.heap.size w W' := by
  obtain ⟨A, cap, hva, hcap, hll, hfa⟩ := hv 6 (by omega)
  have HFA := Lib.hid hfa
  have HVA := Lib.hid hva
  have HTX := Lib.hid htx
  clear hva hfa hv htx hcap
  go_enter Try.func22, Try.ntmps22
  go_upto_region 1 with (fail)
  obtain ⟨W0, hW0, f0, c1, c2, b0⟩ : ∃ W0, ((w.alloc (.cells (cells10 vs) 32)).alloc (.cells #[.int .i64 cur] 3)).alloc (.cells #[.int .i64 p] 3) = W0 ∧ W0.heap[w.heap.size]? = some (.cells (cells10 vs) 32 (0, 0)) ∧ W0.cell? ⟨w.heap.size + 1, 0, none⟩ = some (.int .i64 cur) ∧ W0.cell? ⟨w.heap.size + 1 + 1, 0, none⟩ = some (.int .i64 p) ∧ Below w.heap.size w W0 := by
    have h0 := heap_new w (.cells (cells10 vs) 32)
    have h1 := heap_new (w.alloc (.cells (cells10 vs) 32)) (.cells #[.int .i64 cur] 3)
    have h2 := heap_new ((w.alloc (.cells (cells10 vs) 32)).alloc (.cells #[.int .i64 cur] 3)) (.cells #[.int .i64 p] 3)
    have b1 := (Below.refl _ (w.alloc (.cells (cells10 vs) 32))).alloc (Nat.le_refl _) (.cells #[.int .i64 cur] 3)
    have b2 := (Below.refl _ ((w.alloc (.cells (cells10 vs) 32)).alloc (.cells #[.int .i64 cur] 3))).alloc (Nat.le_refl _) (.cells #[.int .i64 p] 3)
    have e1 : (w.alloc (.cells (cells10 vs) 32)).heap.size = w.heap.size + 1 := by simp
    have e2 : ((w.alloc (.cells (cells10 vs) 32)).alloc (.cells #[.int .i64 cur] 3)).heap.size = w.heap.size + 1 + 1 := by simp
    refine ⟨_, rfl, Hl.row b2 (Hl.row b1 h0), ?_, ?_, (((Below.refl _ w).alloc (Nat.le_refl _) _).alloc (by simp) _).alloc (by simp; omega) _⟩
    · rw [e1] at h1
      rw [cell_of_row _ _ _ _ _ _ (Hl.row b2 h1)]; rfl
    · rw [e2] at h2
      rw [cell_of_row _ _ _ _ _ _ h2]; rfl
  rw [hW0]
  clear hW0
  have c0 : W0.cell? ⟨w.heap.size, 6, none⟩ = some (.slice A (Ls 6).length cap) := by
    rw [cell_of_row _ _ _ _ _ _ f0, ← HVA.out]; exact cells10_get vs (by omega)
  have B0 := Lib.hid b0
  have HC1 := Lib.hid c1
  have HC2 := Lib.hid c2
  have HFR := Lib.hid (firstR_calls (rateP cur p) (w.heap.size + 1) (w.heap.size + 1 + 1) A (Ls 6) cap W0 (HFA.out.keep b0) hll HTX.out (fun v t W hW => rate1_calls v t _ _ cur p W (Hl.cell hW c1) (Hl.cell hW c2)))
  clear b0 f0 c2 HC2
  go_wp2_with fail
  refine HFR.out.mono ?_
  rintro e W1 ⟨⟨v, t, b, rfl, ho⟩, b1⟩
  have B1 := Lib.hid (B0.out.trans (Below.mono b1 B0.out.size))
  have HO := Lib.hid (show rateF ((Ls 6).find? (rateP cur p)) = .tuple #[.int .i64 (v 13), .bool b] by
    unfold outF at ho
    simp only [Value.tuple.injEq, Array.mk.injEq, List.cons.injEq, Value.bool.injEq, and_true] at ho
    unfold rateF
    rw [ho.2]
    have h1 : factC ((Ls 6).find? (rateP cur p) |>.getD zeroA).1 ((Ls 6).find? (rateP cur p) |>.getD zeroA).2 = factC v t := by injection ho.1
    have h2 : (factC ((Ls 6).find? (rateP cur p) |>.getD zeroA).1 ((Ls 6).find? (rateP cur p) |>.getD zeroA).2)[13]? = (factC v t)[13]? := by rw [h1]
    simp only [List.getElem?_toArray, List.getElem?_cons_succ, List.getElem?_cons_zero, Option.some.injEq, Value.int.injEq, true_and] at h2
    rw [h2])
  clear b1 ho HFR c0 c1
  have hone := factC_one v t
  go_upto_region 4 with (refine wpList_store_row rfl 29 _ _ rfl W1.heap.size (factC v t) rfl rfl 29 (factC (fun _ => 0) ⟨#[]⟩) (heap_new W1 _) (hiC _ _) rfl hone ?_)
  obtain ⟨W5, hW5, f5, b5⟩ := box_new W1 (factC (fun _ => 0) ⟨#[]⟩) (factC v t) 29
  rw [hW5]
  try simp only [Act.put]
  have c13 := (row18 f5).2.2.2.2.2.2.2.2.2.2.2.2.2.1
  have B5 := Lib.hid (B1.out.trans (Below.mono b5 B1.out.size))
  clear hW5 f5 b5 hone
  go_wp2_with fail
  go_ret2
  exact ⟨by rw [HO.out]; rfl, B5.out⟩
end Go.Proofs.Ytngkfopdlkddnaa
namespace Go.Proofs.Ytngkfopdlkddnaa
open Go Go.RowKit Go.Maps
theorem outF_parts (o : Option Fa) : ∃ v t b, outF o = .tuple #[.agg (factC v t), .bool b] ∧ o.getD zeroA = (v, t) ∧ o.isSome = b := ⟨(o.getD zeroA).1, (o.getD zeroA).2, o.isSome, rfl, rfl, rfl⟩
set_option maxRecDepth 100000 in
set_option maxHeartbeats 4000000 in
theorem Contract_calls (vs : Nat → Value) (Ls : Nat → List Fa) (n p : Int) (w : World) (hv : SlB w vs Ls) (hl : (Ls 3).length ≤ 100000) (htx : ∀ f ∈ Ls 3, f.2.size ≤ 281474976710656) :
    Calls Try.prog 19 #[.agg (cells10 vs), .int .i64 n, .int .i64 p] w fun e W' => e = .returned (outF (efF (fun f => f.1 9 == n) p (Ls 3))) ∧ Below w.heap.size w W' := by
  obtain ⟨A, cap, hva, hcap, hll, hfa⟩ := hv 3 (by omega)
  have HVA := Lib.hid hva
  have HE := Lib.hid (fun W (h : Below w.heap.size w W) => inEffect_calls_9 n p A (Ls 3) cap W (hfa.keep h) hl htx)
  obtain ⟨v, t, b, ho, _, _⟩ := outF_parts (efF (fun f => f.1 9 == n) p (Ls 3))
  rw [ho] at HE ⊢
  clear hva hfa hv htx hcap ho
  go_enter Try.func19, Try.ntmps19
  go_upto_region 1 with (fail)
  obtain ⟨W0, hW0, f0, f1, b0⟩ := two_rows w (cells10 vs) (factC (fun _ => 0) ⟨#[]⟩) 32 29
  rw [hW0]
  clear hW0
  have c0 : W0.cell? ⟨w.heap.size, 3, none⟩ = some (.slice A (Ls 3).length cap) := by
    rw [cell_of_row _ _ _ _ _ _ f0, ← HVA.out]; exact cells10_get vs (by omega)
  have F1 := Lib.hid f1
  have B0 := Lib.hid b0
  clear f0 f1 b0
  go_wp2_with fail
  refine (HE.out W0 B0.out).mono ?_
  rintro e W1 ⟨rfl, b1⟩
  have F2 := Lib.hid (Hl.row b1 F1.out)
  have B1 := Lib.hid (B0.out.trans (Below.mono b1 B0.out.size))
  clear b1 F1 c0
  have hone := factC_one v t
  go_wp2_with (refine wpList_store_row rfl 29 _ _ rfl (w.heap.size + 1) (factC v t) rfl rfl 29 _ F2.out (hiC _ _) rfl hone ?_)
  refine bodyPost_ret (v := .tuple #[.agg (factC v t), .bool b]) ?_ rfl ?_
  · exact results_fact_tmp rfl _ _ (w.heap.size + 1) _ _ _ rfl (setRow_heap _ (w.heap.size + 1) _ _ 29 (0, 0) F2.out) rfl
  · exact ⟨rfl, below_setRow' B1.out _ _ (by omega)⟩
def methF (o : Option Fa) : Int := if o.isSome = true then (o.getD zeroA).1 16 else 1
set_option maxRecDepth 100000 in
set_option maxHeartbeats 4000000 in
theorem Method_calls (vs : Nat → Value) (Ls : Nat → List Fa) (n p : Int) (w : World) (hv : SlB w vs Ls) (hl : (Ls 9).length ≤ 100000) (htx : ∀ f ∈ Ls 9, f.2.size ≤ 281474976710656) :
    Calls Try.prog 21 #[.agg (cells10 vs), .int .i64 n, .int .i64 p] w fun e W' => e = .returned (.int .i64 (methF (efF (fun f => f.1 8 == n) p (Ls 9)))) ∧ Below w.heap.size w W' := by
  obtain ⟨A, cap, hva, hcap, hll, hfa⟩ := hv 9 (by omega)
  have HVA := Lib.hid hva
  have HE := Lib.hid (fun W (h : Below w.heap.size w W) => inEffect_calls_8 n p A (Ls 9) cap W (hfa.keep h) hl htx)
  obtain ⟨v, t, b, ho, h1, h2⟩ := outF_parts (efF (fun f => f.1 8 == n) p (Ls 9))
  rw [ho] at HE
  unfold methF
  rw [h1, h2]
  clear hva hfa hv htx hcap ho h1 h2
  go_enter Try.func21, Try.ntmps21
  go_upto_region 1 with (fail)
  obtain ⟨W0, hW0, f0, b0⟩ := one_row w (cells10 vs) 32
  rw [hW0]
  clear hW0
  have c0 : W0.cell? ⟨w.heap.size, 9, none⟩ = some (.slice A (Ls 9).length cap) := by
    rw [cell_of_row _ _ _ _ _ _ f0, ← HVA.out]; exact cells10_get vs (by omega)
  have B0 := Lib.hid b0
  clear f0 b0
  go_wp2_with fail
  refine (HE.out W0 B0.out).mono ?_
  rintro e W1 ⟨rfl, b1⟩
  have B1 := Lib.hid (B0.out.trans (Below.mono b1 B0.out.size))
  clear b1 c0
  have hone := factC_one v t
  go_upto_region 2 with (refine wpList_store_row rfl 29 _ _ rfl W1.heap.size (factC v t) rfl rfl 29 (factC (fun _ => 0) ⟨#[]⟩) (heap_new W1 _) (hiC _ _) rfl hone ?_)
  obtain ⟨W5, hW5, f5, b5⟩ := box_new W1 (factC (fun _ => 0) ⟨#[]⟩) (factC v t) 29
  rw [hW5]
  try simp only [Act.put]
  have c16 := (row18 f5).2.2.2.2.2.2.2.2.2.2.2.2.2.2.2.2.1
  have B5 := Lib.hid (B1.out.trans (Below.mono b5 B1.out.size))
  clear hW5 f5 b5 hone
  cases b with
  | true =>
    go_wp2_with fail
    go_ret
    exact ⟨rfl, B5.out⟩
  | false =>
    go_wp2_with fail
    go_ret
    exact ⟨rfl, B5.out⟩
end Go.Proofs.Ytngkfopdlkddnaa
namespace Go.Proofs.Ytngkfopdlkddnaa
open Go Go.RowKit Go.Maps
def rev1 : Fa := (nthI [5, 5, 1, 0, 0, 0, 0, 0, 0, 0, 0, 0, 0, 10, 0, 0, 0], ⟨#[]⟩)
def rev2 : Fa := (nthI [5, 5, 2, 0, 0, 0, 0, 0, 0, 0, 0, 0, 0, 7, 0, 0, 0], ⟨#[]⟩)
def met1 : Fa := (nthI [10, 0, 1, 0, 0, 0, 0, 0, 2, 0, 0, 3, 0, 0, 0, 0, 2], ⟨#[]⟩)
def con1 : Fa := (nthI [0, 0, 0, 0, 0, 0, 0, 0, 0, 4, 0, 0, 0, 0, 0, 0, 0], ⟨#[]⟩)
def con2 : Fa := (nthI [0, 0, 0, 0, 0, 0, 0, 0, 0, 4, 0, 3, 0, 0, 0, 0, 0], ⟨#[120]⟩)
def con3 : Fa := (nthI [0, 0, 0, 0, 0, 0, 0, 0, 0, 4, 0, 6, 0, 0, 0, 0, 0], ⟨#[]⟩)
def bL : List Fa := [rev1, rev2, met1]
def cL : List Fa := [con1, con2, con3]
theorem ok_rev1 : okX (nfX rev1) = true := by rw [ok_nf]; decide +kernel
theorem ok_rev2 : okX (nfX rev2) = true := by rw [ok_nf]; decide +kernel
theorem ok_met1 : okX (nfX met1) = true := by rw [ok_nf]; decide +kernel
theorem key_rev1 : keyX (nfX rev1) = (5, 5, 0) := by rw [key_nf]; decide +kernel
theorem key_rev2 : keyX (nfX rev2) = (5, 5, 0) := by rw [key_nf]; decide +kernel
theorem key_met1 : keyX (nfX met1) = (10, 2, 3) := by rw [key_nf]; decide +kernel
theorem pv_revs : pvX (nfX rev2) (nfX rev1) = true := by
  have h1 := ok_rev1
  have h2 := ok_rev2
  have hk : kyB (faX (nfX rev2)).1 (faX (nfX rev1)).1 = true := by
    unfold kyB
    have a := key_rev1
    have b := key_rev2
    unfold keyX at a b
    rw [Prod.mk.injEq] at a b
    rw [decide_eq_true_iff, a.1, b.1, a.2, b.2]
    exact ⟨rfl, rfl⟩
  have hv : decide ((faX (nfX rev1)).1 2 < (faX (nfX rev2)).1 2) = true := by
    rw [nf_at rev1 2 (by omega), nf_at rev2 2 (by omega)]
    decide +kernel
  unfold pvX pvB
  rw [show okT (faX (nfX rev2)).1 (faX (nfX rev2)).2 = true from h2, show okT (faX (nfX rev1)).1 (faX (nfX rev1)).2 = true from h1, hk, hv]
  rfl
abbrev LstX (k : Nat) (l M : List Fx) : Prop := Bs.Lst okX keyX pvX ltK (fun key => key.1 = (k : Int) + 1) l M
theorem bL_map : bL.map nfX = (([] ++ [nfX rev1]) ++ [nfX rev2]) ++ [nfX met1] := rfl
theorem bL_4 : LstX 4 (bL.map nfX) [nfX rev2] := by
  rw [bL_map]
  have h0 := Bs.lst_nil (ok := okX) (key := keyX) (pv := pvX) (lt := ltK) (fun key : K3 => key.1 = ((4 : Nat) : Int) + 1)
  have h1 := Bs.lst_ins lawsX orderK h0 ok_rev1 (by rw [key_rev1]; rfl)
  have h2 := Bs.lst_ins lawsX orderK h1 ok_rev2 (by rw [key_rev2]; rfl)
  have h3 := Bs.lst_off h2 (f := nfX met1) (fun h => by have e := h.2; rw [key_met1] at e; exact absurd e (by decide))
  have e : Bs.ins keyX pvX ltK (nfX rev2) (Bs.ins keyX pvX ltK (nfX rev1) []) = [nfX rev2] := by
    simp only [Bs.ins]
    rw [if_pos (by rw [key_rev1, key_rev2]), if_pos pv_revs]
  rw [e] at h3
  exact h3
theorem bL_9 : LstX 9 (bL.map nfX) [nfX met1] := by
  rw [bL_map]
  have h0 := Bs.lst_nil (ok := okX) (key := keyX) (pv := pvX) (lt := ltK) (fun key : K3 => key.1 = ((9 : Nat) : Int) + 1)
  have h1 := Bs.lst_off h0 (f := nfX rev1) (fun h => by have e := h.2; rw [key_rev1] at e; exact absurd e (by decide))
  have h2 := Bs.lst_off h1 (f := nfX rev2) (fun h => by have e := h.2; rw [key_rev2] at e; exact absurd e (by decide))
  have h3 := Bs.lst_ins lawsX orderK h2 ok_met1 (by rw [key_met1]; rfl)
  exact h3
theorem bL_3 : LstX 3 (bL.map nfX) [] := by
  rw [bL_map]
  have h0 := Bs.lst_nil (ok := okX) (key := keyX) (pv := pvX) (lt := ltK) (fun key : K3 => key.1 = ((3 : Nat) : Int) + 1)
  have h1 := Bs.lst_off h0 (f := nfX rev1) (fun h => by have e := h.2; rw [key_rev1] at e; exact absurd e (by decide))
  have h2 := Bs.lst_off h1 (f := nfX rev2) (fun h => by have e := h.2; rw [key_rev2] at e; exact absurd e (by decide))
  exact Bs.lst_off h2 (f := nfX met1) (fun h => by have e := h.2; rw [key_met1] at e; exact absurd e (by decide))
theorem ofP_at {l : List Fa} {Ms : Nat → List Fx} (h : OfP l Ms) {k : Nat} (hk : k < 10) {M : List Fx} (hM : LstX k (l.map nfX) M) : Ms k = M := Bs.lst_unique orderK (fun _ => rfl) (h k hk) hM
theorem eqL_self (l : List Fa) : eqL l l = true := (eqL_iff l l).2 rfl
theorem sameB_self (Ls : Nat → List Fa) : sameB Ls Ls = true := (sameB_iff Ls Ls).2 fun _ _ => eqL_self _
def lsC (k : Nat) : List Fa := if k = 3 then cL else []
theorem sameB_bc {Ms : Nat → List Fx} (h : OfP bL Ms) : sameB (fun k => (Ms k).map faX) lsC = false := by
  cases hs : sameB (fun k => (Ms k).map faX) lsC with
  | false => rfl
  | true =>
    have h3 := (sameB_iff _ _).1 hs 3 (by omega)
    have e : (Ms 3).map faX = [] := by rw [ofP_at h (by omega) bL_3]; rfl
    simp only [e] at h3
    rw [show lsC 3 = cL from rfl] at h3
    exact absurd h3 (by simp [cL, eqL])
theorem con_ef : efF (fun f => f.1 9 == 4) 5 cL = some con2 := by kernel_rfl
theorem met_ef2 : methF (efF (fun f => f.1 8 == 2) 2 [faX (nfX met1)]) = 1 := by kernel_rfl
theorem met_ef3 : methF (efF (fun f => f.1 8 == 2) 3 [faX (nfX met1)]) = 2 := by kernel_rfl
theorem hol_c : holders lsC = [4] := by
  have h1 : holL lsC 2 = List.replicate 3 4 := by kernel_rfl
  unfold holders
  rw [h1]
  have h2 : (List.replicate 3 (4 : Int)).mergeSort (fun x y => decide (x ≤ y)) = List.replicate 3 4 := List.perm_replicate.1 (List.mergeSort_perm _ _)
  rw [h2]
  decide +kernel
end Go.Proofs.Ytngkfopdlkddnaa
