/- The walk of DigestChainBinding: for all lists of records it returns true, and nothing that was there has changed. Condition: the table of constants reads as the program lays it. -/
import Derived.Test.YtinioifhbafngaaDoorColB
import Derived.Test.YtinioifhbafngaaDoorBindW
namespace Go.Proofs.YtinioifhbafngaaDoor
open Go.RowKit

theorem zero_conv (W : World) (B : Nat) (h : Arr8 W B 5 zero32) : (convert 42 9 (.slice (some ⟨B, 0, none⟩) 32 32)).run Tryd.prog W = .ok (.string ⟨zero32.toArray⟩) W := by
  have hcv := run_convert_bytes_arg (P := Tryd.prog) W 42 5 Tryd.underlying42 Tryd.underlying5 B 0 32 32 (zero32.map fun b => ((b.toNat : Nat) : Int)) (by decide) (fun j hj => by
    rw [Nat.zero_add, h.cell j hj]
    have hj2 : j < zero32.length := hj
    simp [List.getElem?_map, List.getElem?_eq_getElem hj2]) 9 Tryd.underlying9
  rw [str_bytes] at hcv
  exact hcv
theorem zero_make (W : World) : (Instr.makeSlice 42 (.int .i64 32) (.int .i64 32)).run Tryd.prog W = .ok (.slice (some ⟨W.heap.size, 0, none⟩) 32 32) (W.alloc (.cells (cells8 zero32).toArray 5)) := by
  have hmk := run_make_row' (P := Tryd.prog) 42 5 (.int .u8 0) 1 Tryd.underlying42 (by kernel_rfl) rfl .i64 .i64 32 (by omega) (by omega) W
  rw [zero32_made] at hmk
  exact hmk
theorem chain_small (r : List Bs) (h : ∀ x ∈ r, x.length ≤ 60) : ∀ y ∈ chainR shaF r, y.length ≤ 1000000000 := by
  induction r with
  | nil => intro y hy; simp [chainR] at hy
  | cons x r ih =>
    intro y hy
    rcases List.mem_cons.1 (show y ∈ (2 :: (headR shaF r ++ x)) :: chainR shaF r from hy) with e | e
    · rw [e, List.length_cons, List.length_append, head_length shaF shaF_length]; have := h x (by simp); omega
    · exact ih (fun z hz => h z (by simp [hz])) y e

set_option maxRecDepth 100000 in
set_option maxHeartbeats 4000000 in
theorem chain_walk (Ap : Option Addr) (p : List Bs) (cp : Nat) (Aq : Option Addr) (q : List Bs) (cq : Nat) (w : World) (hK : Konst w)
    (_hcp : p.length ≤ cp) (hlp : p.length ≤ 9223372036854775807) (hsp : Strs w Ap p) (hxp : ∀ x ∈ p, x.length ≤ 9223372036854775807)
    (_hcq : q.length ≤ cq) (hlq : q.length ≤ 9223372036854775807) (hsq : Strs w Aq q) (hxq : ∀ x ∈ q, x.length ≤ 9223372036854775807) :
    Calls Tryd.prog 8 #[.slice Ap p.length cp, .slice Aq q.length cq] w fun e W' => e = .returned (.bool true) ∧ Below w.heap.size w W' := by
  have k0 : HK w := Lib.hid hK
  have s0 : HS w Ap p := Lib.hid hsp
  have t0 : HS w Aq q := Lib.hid hsq
  have Hxp := Lib.hid hxp
  have Hxq := Lib.hid hxq
  clear hK hsp hsq hxp hxq
  go_enter Tryd.func8, Tryd.ntmps8
  go_wp2_with fail
  refine (sane_calls _ (Hid.out k0)).mono ?_
  rintro e w1 ⟨rfl, b1⟩
  have a1 := (Hld.refl w).step b1
  have k1 := k0.keep b1
  have s1 := s0.keep b1
  have t1 := t0.keep b1
  go_wp2_with fail
  refine (few_calls p Ap cp 20 _ (by omega) (Hid.out s1) Hxp.out hlp).mono ?_
  rintro e w2 ⟨⟨v2, rfl, hv2⟩, b2⟩
  have a2 := a1.step b2
  have k2 := k1.keep b2
  have t2 := t1.keep b2
  have hP := fewL_length p 20
  have HP60 := Lib.hid (fewL_60 p 20)
  generalize fewL p 20 = P at *
  obtain ⟨A2, c2, rfl, hc2, s2, l2⟩ := hv2.lies
  clear hv2 s0 s1 t0 t1
  go_wp2_with fail
  refine (few_calls q Aq cq 20 _ (by omega) (Hid.out t2) Hxq.out hlq).mono ?_
  rintro e w3 ⟨⟨v3, rfl, hv3⟩, b3⟩
  have a3 := a2.step b3
  have k3 := k2.keep b3
  have s3 := s2.keep b3
  have hQ := fewL_length q 20
  have HQ60 := Lib.hid (fewL_60 q 20)
  generalize fewL q 20 = Q at *
  obtain ⟨A3, c3, rfl, hc3, t3, l3⟩ := hv3.lies
  clear hv3 s2 t2
  have hXl : (chainR shaF P.reverse).length = P.length := by rw [chainR_length, List.length_reverse]
  have hYl : (chainR shaF Q.reverse).length = Q.length := by rw [chainR_length, List.length_reverse]
  have HXs := Lib.hid (chain_small P.reverse (fun x hx => HP60.out x (by simpa using hx)))
  have HYs := Lib.hid (chain_small Q.reverse (fun x hx => HQ60.out x (by simpa using hx)))
  have Hcb : Hid (headR shaF P.reverse = headR shaF Q.reverse → P ≠ Q → Collide shaF (chainR shaF P.reverse) (chainR shaF Q.reverse) ∨ (P.length < Q.length ∧ ∃ u, (chainR shaF Q.reverse)[P.length]? = some u ∧ shaF u = zero32) ∨ (Q.length < P.length ∧ ∃ u, (chainR shaF P.reverse)[Q.length]? = some u ∧ shaF u = zero32)) := Lib.hid fun he hne => by
    have := chain_binding shaF shaF_length P.reverse Q.reverse he (fun h => hne (by rw [← List.reverse_reverse P, h, List.reverse_reverse]))
    rwa [List.length_reverse, List.length_reverse] at this
  have HH := Lib.hid (heads_main P A2 c2 w3 k3 (by omega) hc2 s3 l2 HP60.out)
  have HH2 : Hid (∀ w', Hld w3 w' → Calls Tryd.prog 33 #[.slice A3 Q.length c3] w' fun e W' =>
      (∃ v, e = .returned (.tuple #[v, .string ⟨(headR shaF Q.reverse).toArray⟩]) ∧ RowS W' w'.heap.size v (chainR shaF Q.reverse)) ∧ Below w'.heap.size w' W') := Lib.hid fun w' h =>
    heads_main Q A3 c3 w' (k3.keep (Hid.out h)) (by omega) hc3 (t3.keep (Hid.out h)) l3 HQ60.out
  have HSame : Hid (∀ w', Hld w3 w' → Calls Tryd.prog 25 #[.slice A2 P.length c2, .slice A3 Q.length c3] w' fun e W' => e = .returned (.bool (decide (P = Q))) ∧ Below w'.heap.size w' W') := Lib.hid fun w' h =>
    same_any P Q A2 A3 c2 c3 w' (Hid.out (s3.keep (Hid.out h))) (Hid.out (t3.keep (Hid.out h))) (by omega)
  have Hl1 := head_length shaF shaF_length P.reverse
  have HPQ : Hid (P = Q → headR shaF P.reverse = headR shaF Q.reverse) := Lib.hid fun h => by rw [h]
  generalize headR shaF P.reverse = h at *
  generalize headR shaF Q.reverse = k at *
  generalize chainR shaF P.reverse = X at *
  generalize chainR shaF Q.reverse = Y at *
  have hz1 : (⟨h.toArray⟩ : ByteArray).size = 32 := Hl1
  have hz2 : (((⟨h.toArray⟩ : ByteArray).size : Int) != 32) = false := by rw [hz1]; rfl
  go_wp2_with fail
  refine HH.out.mono ?_
  rintro e w4 ⟨⟨v4, rfl, hv4⟩, b4⟩
  have a4 := a3.step b4
  have d4 := (Hld.refl w3).step b4
  have k4 := k3.keep b4
  obtain ⟨A4, c4, rfl, hc4, x4, l4⟩ := hv4.lies
  clear hv4
  go_wp2_with fail
  refine (HH2.out _ d4).mono ?_
  rintro e w5 ⟨⟨v5, rfl, hv5⟩, b5⟩
  have a5 := a4.step b5
  have d5 := d4.step b5
  have k5 := k4.keep b5
  have x5 := x4.keep b5
  obtain ⟨A5, c5, rfl, hc5, y5, l5⟩ := hv5.lies
  clear hv5
  go_wp2_with fail
  refine (HSame.out _ d5).mono ?_
  rintro e w6 ⟨rfl, b6⟩
  have a6 := a5.step b6
  have k6 := k5.keep b6
  have x6 := x5.keep b6
  have y6 := y5.keep b6
  by_cases hsame : P = Q
  · have he : h = k := HPQ.out hsame
    subst he
    rw [decide_eq_true hsame]
    go_wp2_with fail
    go_ret
    exact ⟨rfl, Hid.out a6⟩
  · rw [decide_eq_false hsame]
    by_cases hhk : h = k
    · have Hdis := Lib.hid (Hcb.out hhk hsame)
      subst hhk
      clear Hcb HPQ HSame HH HH2
      have hx20 : X.length ≤ 20 := by omega
      have hy20 : Y.length ≤ 20 := by omega
      have HKw : Hid (∀ w', Hld w6 w' → Konst w') := Lib.hid fun w' h => Hid.out (k6.keep (Hid.out h))
      obtain ⟨Z, hZ⟩ : ∃ Z, (cells8 zero32).toArray = Z := ⟨_, rfl⟩
      have hmk : ∀ W : World, (Instr.makeSlice 42 (.int .i64 32) (.int .i64 32)).run Tryd.prog W = .ok (.slice (some ⟨W.heap.size, 0, none⟩) 32 32) (W.alloc (.cells Z 5)) := fun W => by rw [← hZ]; exact zero_make W
      have hcvA : ∀ W : World, (convert 42 9 (.slice (some ⟨W.heap.size, 0, none⟩) 32 32)).run Tryd.prog (W.alloc (.cells Z 5)) = .ok (.string ⟨zero32.toArray⟩) (W.alloc (.cells Z 5)) := fun W => zero_conv _ _ (by rw [← hZ]; exact heap_alloc_new W _)
      have hldZ : Hld w6 (w6.alloc (.cells Z 5)).drew := Lib.hid (Hid.out ((Hld.refl w6).alloc _)).drew
      have hcvB : ∀ w9 : World, Below (w6.alloc (.cells Z 5)).drew.heap.size (w6.alloc (.cells Z 5)).drew w9 → (convert 42 9 (.slice (some ⟨w6.heap.size, 0, none⟩) 32 32)).run Tryd.prog w9 = .ok (.string ⟨zero32.toArray⟩) w9 := fun w9 b9 => zero_conv _ _ ((b9.block w6.heap.size (by show w6.heap.size < (w6.alloc (.cells Z 5)).heap.size; simp)).trans (by rw [← hZ]; exact heap_alloc_new w6 _))
      have HcvA := Lib.hid hcvA
      have HcvB := Lib.hid hcvB
      clear hcvA hcvB
      have hc1 : (convert 42 9 (.slice (some ⟨w6.heap.size, 0, none⟩) 32 32)).run Tryd.prog (w6.alloc (.cells Z 5)).drew = .ok (.string ⟨zero32.toArray⟩) (w6.alloc (.cells Z 5)).drew := zero_conv _ _ (by rw [← hZ]; exact heap_alloc_new w6 _)
      have HColT : Hid (∀ w', Hld w6 w' → Collide shaF X Y → Calls Tryd.prog 32 #[.slice A4 X.length c4, .slice A5 Y.length c5] w' fun e W' => e = .returned (.bool true) ∧ Below w'.heap.size w' W') := Lib.hid fun w' h hcol => by
        have hn1 : 1 ≤ X.length := by
          obtain ⟨j, u, v, h, _⟩ := hcol
          have := (List.getElem?_eq_some_iff.1 h).1
          omega
        have hn2 : 1 ≤ Y.length := by
          obtain ⟨j, u, v, _, h, _⟩ := hcol
          have := (List.getElem?_eq_some_iff.1 h).1
          omega
        obtain ⟨g, rfl⟩ := l4.addr hn1
        obtain ⟨g', rfl⟩ := l5.addr hn2
        exact collide_main X Y g g' c4 c5 w' (k6.keep (Hid.out h)) (x6.keep (Hid.out h)) (y6.keep (Hid.out h)) (by omega) (by omega) hc4 HXs.out HYs.out hcol
      have HColA : Hid (∀ w', Hld w6 w' → Calls Tryd.prog 32 #[.slice A4 X.length c4, .slice A5 Y.length c5] w' fun e W' => (∃ z, e = .returned (.bool z)) ∧ Below w'.heap.size w' W') := Lib.hid fun w' h =>
        collide_any X Y A4 A5 c4 c5 w' (k6.keep (Hid.out h)) (x6.keep (Hid.out h)) (y6.keep (Hid.out h)) l4 l5 (by omega) (by omega) hc4 HXs.out HYs.out
      clear hZ
      rw [hXl, hYl] at HColT HColA
      rw [hXl] at hc4 l4
      rw [hYl] at hc5 l5
      obtain ⟨np, hnp⟩ : ∃ np, P.length = np := ⟨_, rfl⟩
      obtain ⟨nq, hnq⟩ : ∃ nq, Q.length = nq := ⟨_, rfl⟩
      rw [hnp] at hXl HColT HColA Hdis hc4 l4
      rw [hnq] at hYl HColT HColA Hdis hc5 l5
      rw [hnp, hnq]
      rcases Nat.lt_trichotomy np nq with hlt | heq | hgt
      · have hlies : ∃ g, A5 = some ⟨g, 0, none⟩ := by
          rcases l5 with ⟨_, _, h⟩ | h
          · omega
          · exact h
        obtain ⟨g, hg⟩ := hlies
        subst hg
        have c6' := y6.cellAt np (by omega)
        have hu : (Y.getD np []).length ≤ 1000000000 := HYs.out _ (by
          rw [List.getD_eq_getElem?_getD, List.getElem?_eq_getElem (by omega)]; exact List.getElem_mem _)
        have Hdz : Hid (Collide shaF X Y ∨ shaF (Y.getD np []) = zero32) := Lib.hid (by
          rcases Hdis.out with h | ⟨h1, u, h2, h3⟩ | ⟨h1, u, h2, h3⟩
          · exact Or.inl h
          · exact Or.inr (by rw [List.getD_eq_getElem?_getD, h2]; exact h3)
          · exact absurd h1 (by omega))
        generalize Y.getD np [] = u at *
        have hmin : ∀ ts ty W, (Builtin.min_ ts ty #[.int .i64 (np : Int), .int .i64 (nq : Int)]).run Tryd.prog W = .ok (.int .i64 (np : Int)) W := fun ts ty W => by rw [run_min2, show min (np : Int) (nq : Int) = (np : Int) by omega]
        have hkeep : ∀ W', Hld w6 W' → Hld w6 W' ∧ W'.cell? ⟨g, np, none⟩ = some (.string ⟨u.toArray⟩) := fun W' h => ⟨h, ((Hid.out h).cell (p := ⟨g, np, none⟩) (lt_of_cell c6')).trans c6'⟩
        have q1 : ((np : Int) != (nq : Int)) = true := by rw [bne_iff_ne]; omega
        have q2 : ((np : Int) == (nq : Int)) = false := by rw [beq_eq_false_iff_ne]; omega
        have q3 : (np : Int) < (nq : Int) := by omega
        have q4 : (nq : Int) ≤ (c5 : Int) := by omega
        have q5 : (np : Int) < (nq : Int) := by omega
        clear hXl hYl Hdis hx20 hy20
        go_wp2_with fail
        refine wp_region_noPanic ?_
        refine wp_region_held_drew (S := (fun w' => Hld w6 w' ∧ w'.cell? ⟨g, np, none⟩ = some (.string ⟨u.toArray⟩))) (by kernel_rfl) (hkeep _ (Hld.start _)) (fun hHeld => ?_)
        refine wpAnyH_take (i := 0) (oi := { dst := some 61, op := Op.move (Operand.tmp 6), type := 26, pos := "law.go:201", after := #[], guard := none }) (v := ?_) rfl (by kernel_rfl) (by kernel_rfl) (by kernel_rfl) (fun _ _ _ h => h) (Or.inl ⟨by rfl, ?_⟩) (by assumption) ?_
        rotate_left
        · (intro w0 hS0; (try dsimp only at hS0); go_simp) <;> with_reducible rfl
        try simp only [Act.put, List.setIfInBounds_toArray, List.set_cons_zero, List.set_cons_succ]
        refine wpAnyH_take (i := 1) (oi := { dst := some 62, op := Op.call { callee := Callee.builtin Builtin.len, args := #[Operand.tmp 61], argTypes := #[26] }, type := 3, pos := "law.go:201", after := #[{ on := 0, ground := Ground.data }], guard := none }) (v := ?_) rfl (by kernel_rfl) (by kernel_rfl) (by kernel_rfl) (fun _ _ _ h => h) (Or.inl ⟨by rfl, ?_⟩) (by assumption) ?_
        rotate_left
        · (intro w0 hS0; (try dsimp only at hS0); go_simp) <;> with_reducible rfl
        try simp only [Act.put, List.setIfInBounds_toArray, List.set_cons_zero, List.set_cons_succ]
        refine wpAnyH_take (i := 2) (oi := { dst := some 63, op := Op.move (Operand.tmp 8), type := 26, pos := "law.go:201", after := #[], guard := none }) (v := ?_) rfl (by kernel_rfl) (by kernel_rfl) (by kernel_rfl) (fun _ _ _ h => h) (Or.inl ⟨by rfl, ?_⟩) (by assumption) ?_
        rotate_left
        · (intro w0 hS0; (try dsimp only at hS0); go_simp) <;> with_reducible rfl
        try simp only [Act.put, List.setIfInBounds_toArray, List.set_cons_zero, List.set_cons_succ]
        refine wpAnyH_take (i := 3) (oi := { dst := some 64, op := Op.call { callee := Callee.builtin Builtin.len, args := #[Operand.tmp 63], argTypes := #[26] }, type := 3, pos := "law.go:201", after := #[{ on := 2, ground := Ground.data }], guard := none }) (v := ?_) rfl (by kernel_rfl) (by kernel_rfl) (by kernel_rfl) (fun _ _ _ h => h) (Or.inl ⟨by rfl, ?_⟩) (by assumption) ?_
        rotate_left
        · (intro w0 hS0; (try dsimp only at hS0); go_simp) <;> with_reducible rfl
        try simp only [Act.put, List.setIfInBounds_toArray, List.set_cons_zero, List.set_cons_succ]
        refine wpAnyH_take (i := 4) (oi := { dst := some 65, op := Op.binOp BinOp.neq 3 (Operand.tmp 62) (Operand.tmp 64) 3, type := 4, pos := "law.go:201", after := #[{ on := 1, ground := Ground.data }, { on := 3, ground := Ground.data }], guard := none }) (v := ?_) rfl (by kernel_rfl) (by kernel_rfl) (by kernel_rfl) (fun _ _ _ h => h) (Or.inl ⟨by rfl, ?_⟩) (by assumption) ?_
        rotate_left
        · (intro w0 hS0; (try dsimp only at hS0); go_simp) <;> with_reducible rfl
        try simp only [Act.put, List.setIfInBounds_toArray, List.set_cons_zero, List.set_cons_succ]
        refine wpAnyH_take (i := 5) (oi := { dst := some 66, op := Op.move (Operand.tmp 65), type := 4, pos := "law.go:201", after := #[{ on := 4, ground := Ground.data }], guard := none }) (v := ?_) rfl (by kernel_rfl) (by kernel_rfl) (by kernel_rfl) (fun _ _ _ h => h) (Or.inl ⟨by rfl, ?_⟩) (by assumption) ?_
        rotate_left
        · (intro w0 hS0; (try dsimp only at hS0); go_simp) <;> with_reducible rfl
        try simp only [Act.put, List.setIfInBounds_toArray, List.set_cons_zero, List.set_cons_succ]
        refine wpAnyH_take (i := 6) (oi := { dst := some 67, op := Op.move (Operand.tmp 11), type := 26, pos := "law.go:201", after := #[{ on := 5, ground := Ground.guard }], guard := some (5, true) }) (v := ?_) rfl (by kernel_rfl) (by kernel_rfl) (by kernel_rfl) (fun _ _ _ h => h) (Or.inl ⟨by rfl, ?_⟩) (by assumption) ?_
        rotate_left
        · (intro w0 hS0; (try dsimp only at hS0); go_simp) <;> with_reducible rfl
        try simp only [Act.put, List.setIfInBounds_toArray, List.set_cons_zero, List.set_cons_succ]
        refine wpAnyH_take (i := 7) (oi := { dst := some 68, op := Op.move (Operand.tmp 6), type := 26, pos := "law.go:201", after := #[{ on := 5, ground := Ground.guard }], guard := some (5, true) }) (v := ?_) rfl (by kernel_rfl) (by kernel_rfl) (by kernel_rfl) (fun _ _ _ h => h) (Or.inl ⟨by rfl, ?_⟩) (by assumption) ?_
        rotate_left
        · (intro w0 hS0; (try dsimp only at hS0); go_simp) <;> with_reducible rfl
        try simp only [Act.put, List.setIfInBounds_toArray, List.set_cons_zero, List.set_cons_succ]
        refine wpAnyH_take (i := 8) (oi := { dst := some 69, op := Op.call { callee := Callee.builtin Builtin.len, args := #[Operand.tmp 68], argTypes := #[26] }, type := 3, pos := "law.go:201", after := #[{ on := 7, ground := Ground.data }, { on := 5, ground := Ground.guard }], guard := some (5, true) }) (v := ?_) rfl (by kernel_rfl) (by kernel_rfl) (by kernel_rfl) (fun _ _ _ h => h) (Or.inl ⟨by rfl, ?_⟩) (by assumption) ?_
        rotate_left
        · (intro w0 hS0; (try dsimp only at hS0); go_simp) <;> with_reducible rfl
        try simp only [Act.put, List.setIfInBounds_toArray, List.set_cons_zero, List.set_cons_succ]
        refine wpAnyH_take (i := 9) (oi := { dst := some 70, op := Op.move (Operand.tmp 8), type := 26, pos := "law.go:201", after := #[{ on := 5, ground := Ground.guard }], guard := some (5, true) }) (v := ?_) rfl (by kernel_rfl) (by kernel_rfl) (by kernel_rfl) (fun _ _ _ h => h) (Or.inl ⟨by rfl, ?_⟩) (by assumption) ?_
        rotate_left
        · (intro w0 hS0; (try dsimp only at hS0); go_simp) <;> with_reducible rfl
        try simp only [Act.put, List.setIfInBounds_toArray, List.set_cons_zero, List.set_cons_succ]
        refine wpAnyH_take (i := 10) (oi := { dst := some 71, op := Op.call { callee := Callee.builtin Builtin.len, args := #[Operand.tmp 70], argTypes := #[26] }, type := 3, pos := "law.go:201", after := #[{ on := 9, ground := Ground.data }, { on := 5, ground := Ground.guard }], guard := some (5, true) }) (v := ?_) rfl (by kernel_rfl) (by kernel_rfl) (by kernel_rfl) (fun _ _ _ h => h) (Or.inl ⟨by rfl, ?_⟩) (by assumption) ?_
        rotate_left
        · (intro w0 hS0; (try dsimp only at hS0); go_simp) <;> with_reducible rfl
        try simp only [Act.put, List.setIfInBounds_toArray, List.set_cons_zero, List.set_cons_succ]
        refine wpAnyH_ready (rs := [11, 15]) (by kernel_rfl) (by simp) ?_
        refine AllReadyH.cons (o := { dst := some 72, op := Op.call { callee := Callee.builtin Builtin.min, args := #[Operand.tmp 69, Operand.tmp 71], argTypes := #[3, 3] }, type := 3, pos := "law.go:201", after := #[{ on := 8, ground := Ground.data }, { on := 10, ground := Ground.data }, { on := 5, ground := Ground.guard }], guard := some (5, true) }) rfl (fun K hK => ?_) ?_
        · skip
          go_simp
          refine hK.out _ _ (hkeep _ (Hld.start w6)) (fun hHeld => ?_)
          clear hK K
          try simp only [Act.put, List.setIfInBounds_toArray, List.set_cons_zero, List.set_cons_succ]
          refine wpAnyH_take (i := 12) (oi := { dst := some 73, op := Op.indexAddr 26 (Operand.tmp 67) (Operand.tmp 72), type := 0, pos := "law.go:201", after := #[{ on := 6, ground := Ground.data }, { on := 11, ground := Ground.data }, { on := 5, ground := Ground.guard }], guard := some (5, true) }) (v := ?_) rfl (by kernel_rfl) (by kernel_rfl) (by kernel_rfl) (fun _ _ _ h => h) (Or.inl ⟨by rfl, ?_⟩) (by assumption) ?_
          rotate_left
          · (intro w0 hS0; (try dsimp only at hS0); go_simp) <;> with_reducible rfl
          try simp only [Act.put, List.setIfInBounds_toArray, List.set_cons_zero, List.set_cons_succ]
          refine wpAnyH_take (i := 13) (oi := { dst := some 74, op := Op.load 9 (Operand.tmp 73), type := 9, pos := "law.go:201", after := #[{ on := 12, ground := Ground.data }, { on := 5, ground := Ground.guard }], guard := some (5, true) }) (v := ?_) rfl (by kernel_rfl) (by kernel_rfl) (by kernel_rfl) (fun _ _ _ h => h) (Or.inl ⟨by rfl, ?_⟩) (by assumption) ?_
          rotate_left
          · (intro w0 hS0; (try dsimp only at hS0); go_simp) <;> with_reducible rfl
          try simp only [Act.put, List.setIfInBounds_toArray, List.set_cons_zero, List.set_cons_succ]
          refine wpAnyH_ready (rs := [14, 15]) (by kernel_rfl) (by simp) ?_
          refine AllReadyH.cons (o := { dst := some 75, op := Op.call { callee := Callee.value (Operand.func 12), args := #[Operand.tmp 74], argTypes := #[9] }, type := 9, pos := "law.go:201", after := #[{ on := 13, ground := Ground.data }, { on := 5, ground := Ground.chain }, { on := 5, ground := Ground.guard }], guard := some (5, true) }) rfl (fun K hK => ?_) ?_
          · skip
            go_simp
            refine (Sum_calls ⟨u.toArray⟩ _ (HKw.out _ ((hkeep _ (Hld.start w6))).1) (by rw [mk_size]; exact Nat.le_trans hu (by decide))).mono ?_
            rintro e w9 ⟨rfl, b9⟩
            have hld9 := ((hkeep _ (Hld.start w6))).1.step b9
            have hc3 := HcvA.out w9
            go_wp2_with fail
            refine hK.out _ _ (hkeep _ hld9) (fun hHeld => ?_)
            clear hK K
            try simp only [Act.put, List.setIfInBounds_toArray, List.set_cons_zero, List.set_cons_succ]
            refine wpAnyH_ready (rs := [15]) (by kernel_rfl) (by simp) ?_
            refine AllReadyH.cons (o := { dst := some 76, op := Op.makeSlice 42 (Operand.const (Value.int IntKind.i64 32)) (Operand.const (Value.int IntKind.i64 32)), type := 42, pos := "law.go:201", after := #[{ on := 5, ground := Ground.guard }], guard := some (5, true) }) rfl (fun K hK => ?_) ?_
            · skip
              go_simp
              refine hK.out _ _ (hkeep _ (Hld.alloc hld9 _)) (fun hHeld => ?_)
              clear hK K
              try simp only [Act.put, List.setIfInBounds_toArray, List.set_cons_zero, List.set_cons_succ]
              refine wpAnyH_ready (rs := [16]) (by kernel_rfl) (by simp) ?_
              refine AllReadyH.cons (o := { dst := some 77, op := Op.convert 42 9 (Operand.tmp 76), type := 9, pos := "law.go:201", after := #[{ on := 15, ground := Ground.data }, { on := 5, ground := Ground.guard }], guard := some (5, true) }) rfl (fun K hK => ?_) ?_
              · skip
                go_simp
                refine hK.out _ _ (hkeep _ (Hld.alloc hld9 _)) (fun hHeld => ?_)
                clear hK K
                try simp only [Act.put, List.setIfInBounds_toArray, List.set_cons_zero, List.set_cons_succ]
                refine wpAnyH_take (i := 17) (oi := { dst := some 78, op := Op.binOp BinOp.eql 9 (Operand.tmp 75) (Operand.tmp 77) 9, type := 4, pos := "law.go:201", after := #[{ on := 14, ground := Ground.data }, { on := 16, ground := Ground.data }, { on := 5, ground := Ground.guard }], guard := some (5, true) }) (v := ?_) rfl (by kernel_rfl) (by kernel_rfl) (by kernel_rfl) (fun _ _ _ h => h) (Or.inl ⟨by rfl, ?_⟩) (by assumption) ?_
                rotate_left
                · (intro w0 hS0; (try dsimp only at hS0); go_simp) <;> with_reducible rfl
                try simp only [Act.put, List.setIfInBounds_toArray, List.set_cons_zero, List.set_cons_succ]
                refine wpAnyH_take (i := 18) (oi := { dst := some 79, op := Op.pick (Operand.tmp 66) (Operand.tmp 78) (Operand.const (Value.bool false)), type := 4, pos := "law.go:201", after := #[{ on := 5, ground := Ground.data }, { on := 17, ground := Ground.data }], guard := none }) (v := ?_) rfl (by kernel_rfl) (by kernel_rfl) (by kernel_rfl) (fun _ _ _ h => h) (Or.inl ⟨by rfl, ?_⟩) (by assumption) ?_
                rotate_left
                · (intro w0 hS0; (try dsimp only at hS0); go_simp) <;> with_reducible rfl
                try simp only [Act.put, List.setIfInBounds_toArray, List.set_cons_zero, List.set_cons_succ]
                refine wpAnyH_take (i := 19) (oi := { dst := some 12, op := Op.assign (Operand.tmp 79), type := 4, pos := "law.go:201", after := #[{ on := 18, ground := Ground.data }, { on := 14, ground := Ground.chain }, { on := 0, ground := Ground.phase }, { on := 1, ground := Ground.phase }, { on := 2, ground := Ground.phase }, { on := 3, ground := Ground.phase }, { on := 4, ground := Ground.phase }, { on := 5, ground := Ground.phase }, { on := 6, ground := Ground.phase }, { on := 7, ground := Ground.phase }, { on := 8, ground := Ground.phase }, { on := 9, ground := Ground.phase }, { on := 10, ground := Ground.phase }, { on := 11, ground := Ground.phase }, { on := 12, ground := Ground.phase }, { on := 13, ground := Ground.phase }, { on := 14, ground := Ground.phase }, { on := 15, ground := Ground.phase }, { on := 16, ground := Ground.phase }, { on := 17, ground := Ground.phase }, { on := 18, ground := Ground.phase }], guard := none }) (v := ?_) rfl (by kernel_rfl) (by kernel_rfl) (by kernel_rfl) (fun _ _ _ h => h) (Or.inl ⟨by rfl, ?_⟩) (by assumption) ?_
                rotate_left
                · (intro w0 hS0; (try dsimp only at hS0); go_simp) <;> with_reducible rfl
                try simp only [Act.put, List.setIfInBounds_toArray, List.set_cons_zero, List.set_cons_succ]
                refine wpAnyH_done (by kernel_rfl) ?_ _
                refine NoPanic.normal ?_
                rcases Hdz.out with hC | hzero
                · go_wp2_with fail
                  refine (HColT.out _ ?hh hC).mono ?_
                  case hh => first | exact hld9 | exact hld9.alloc _
                  rintro e w11 ⟨rfl, b11⟩
                  go_wp2_with fail
                  go_ret
                  first
                    | exact ⟨rfl, Hid.out ((a6.step (Hid.out hld9)).step b11)⟩
                    | exact ⟨rfl, Hid.out ((a6.step (Hid.out (hld9.alloc _))).step b11)⟩
                · have hbe : (shaF u == zero32) = true := by rw [hzero]; exact beq_self_eq_true _
                  rw [hbe]
                  go_wp2_with fail
                  refine (HColA.out _ ?hh).mono ?_
                  case hh => first | exact hld9 | exact hld9.alloc _
                  rintro e w11 ⟨⟨z, rfl⟩, b11⟩
                  cases z
                  all_goals
                    go_wp2_with fail
                    go_ret
                    first
                      | exact ⟨rfl, Hid.out ((a6.step (Hid.out hld9)).step b11)⟩
                      | exact ⟨rfl, Hid.out ((a6.step (Hid.out (hld9.alloc _))).step b11)⟩
              exact AllReadyH.nil
            exact AllReadyH.nil
          refine AllReadyH.cons (o := { dst := some 76, op := Op.makeSlice 42 (Operand.const (Value.int IntKind.i64 32)) (Operand.const (Value.int IntKind.i64 32)), type := 42, pos := "law.go:201", after := #[{ on := 5, ground := Ground.guard }], guard := some (5, true) }) rfl (fun K hK => ?_) ?_
          · skip
            go_simp
            refine hK.out _ _ (hkeep _ hldZ) (fun hHeld => ?_)
            clear hK K
            try simp only [Act.put, List.setIfInBounds_toArray, List.set_cons_zero, List.set_cons_succ]
            refine wpAnyH_ready (rs := [14, 16]) (by kernel_rfl) (by simp) ?_
            refine AllReadyH.cons (o := { dst := some 75, op := Op.call { callee := Callee.value (Operand.func 12), args := #[Operand.tmp 74], argTypes := #[9] }, type := 9, pos := "law.go:201", after := #[{ on := 13, ground := Ground.data }, { on := 5, ground := Ground.chain }, { on := 5, ground := Ground.guard }], guard := some (5, true) }) rfl (fun K hK => ?_) ?_
            · skip
              go_simp
              refine (Sum_calls ⟨u.toArray⟩ _ (HKw.out _ ((hkeep _ hldZ)).1) (by rw [mk_size]; exact Nat.le_trans hu (by decide))).mono ?_
              rintro e w9 ⟨rfl, b9⟩
              have hld9 := ((hkeep _ hldZ)).1.step b9
              have hc2 := HcvB.out w9 b9
              go_wp2_with fail
              refine hK.out _ _ (hkeep _ hld9) (fun hHeld => ?_)
              clear hK K
              try simp only [Act.put, List.setIfInBounds_toArray, List.set_cons_zero, List.set_cons_succ]
              refine wpAnyH_ready (rs := [16]) (by kernel_rfl) (by simp) ?_
              refine AllReadyH.cons (o := { dst := some 77, op := Op.convert 42 9 (Operand.tmp 76), type := 9, pos := "law.go:201", after := #[{ on := 15, ground := Ground.data }, { on := 5, ground := Ground.guard }], guard := some (5, true) }) rfl (fun K hK => ?_) ?_
              · skip
                go_simp
                refine hK.out _ _ (hkeep _ hld9) (fun hHeld => ?_)
                clear hK K
                try simp only [Act.put, List.setIfInBounds_toArray, List.set_cons_zero, List.set_cons_succ]
                refine wpAnyH_take (i := 17) (oi := { dst := some 78, op := Op.binOp BinOp.eql 9 (Operand.tmp 75) (Operand.tmp 77) 9, type := 4, pos := "law.go:201", after := #[{ on := 14, ground := Ground.data }, { on := 16, ground := Ground.data }, { on := 5, ground := Ground.guard }], guard := some (5, true) }) (v := ?_) rfl (by kernel_rfl) (by kernel_rfl) (by kernel_rfl) (fun _ _ _ h => h) (Or.inl ⟨by rfl, ?_⟩) (by assumption) ?_
                rotate_left
                · (intro w0 hS0; (try dsimp only at hS0); go_simp) <;> with_reducible rfl
                try simp only [Act.put, List.setIfInBounds_toArray, List.set_cons_zero, List.set_cons_succ]
                refine wpAnyH_take (i := 18) (oi := { dst := some 79, op := Op.pick (Operand.tmp 66) (Operand.tmp 78) (Operand.const (Value.bool false)), type := 4, pos := "law.go:201", after := #[{ on := 5, ground := Ground.data }, { on := 17, ground := Ground.data }], guard := none }) (v := ?_) rfl (by kernel_rfl) (by kernel_rfl) (by kernel_rfl) (fun _ _ _ h => h) (Or.inl ⟨by rfl, ?_⟩) (by assumption) ?_
                rotate_left
                · (intro w0 hS0; (try dsimp only at hS0); go_simp) <;> with_reducible rfl
                try simp only [Act.put, List.setIfInBounds_toArray, List.set_cons_zero, List.set_cons_succ]
                refine wpAnyH_take (i := 19) (oi := { dst := some 12, op := Op.assign (Operand.tmp 79), type := 4, pos := "law.go:201", after := #[{ on := 18, ground := Ground.data }, { on := 14, ground := Ground.chain }, { on := 0, ground := Ground.phase }, { on := 1, ground := Ground.phase }, { on := 2, ground := Ground.phase }, { on := 3, ground := Ground.phase }, { on := 4, ground := Ground.phase }, { on := 5, ground := Ground.phase }, { on := 6, ground := Ground.phase }, { on := 7, ground := Ground.phase }, { on := 8, ground := Ground.phase }, { on := 9, ground := Ground.phase }, { on := 10, ground := Ground.phase }, { on := 11, ground := Ground.phase }, { on := 12, ground := Ground.phase }, { on := 13, ground := Ground.phase }, { on := 14, ground := Ground.phase }, { on := 15, ground := Ground.phase }, { on := 16, ground := Ground.phase }, { on := 17, ground := Ground.phase }, { on := 18, ground := Ground.phase }], guard := none }) (v := ?_) rfl (by kernel_rfl) (by kernel_rfl) (by kernel_rfl) (fun _ _ _ h => h) (Or.inl ⟨by rfl, ?_⟩) (by assumption) ?_
                rotate_left
                · (intro w0 hS0; (try dsimp only at hS0); go_simp) <;> with_reducible rfl
                try simp only [Act.put, List.setIfInBounds_toArray, List.set_cons_zero, List.set_cons_succ]
                refine wpAnyH_done (by kernel_rfl) ?_ _
                refine NoPanic.normal ?_
                rcases Hdz.out with hC | hzero
                · go_wp2_with fail
                  refine (HColT.out _ ?hh hC).mono ?_
                  case hh => first | exact hld9 | exact hld9.alloc _
                  rintro e w11 ⟨rfl, b11⟩
                  go_wp2_with fail
                  go_ret
                  first
                    | exact ⟨rfl, Hid.out ((a6.step (Hid.out hld9)).step b11)⟩
                    | exact ⟨rfl, Hid.out ((a6.step (Hid.out (hld9.alloc _))).step b11)⟩
                · have hbe : (shaF u == zero32) = true := by rw [hzero]; exact beq_self_eq_true _
                  rw [hbe]
                  go_wp2_with fail
                  refine (HColA.out _ ?hh).mono ?_
                  case hh => first | exact hld9 | exact hld9.alloc _
                  rintro e w11 ⟨⟨z, rfl⟩, b11⟩
                  cases z
                  all_goals
                    go_wp2_with fail
                    go_ret
                    first
                      | exact ⟨rfl, Hid.out ((a6.step (Hid.out hld9)).step b11)⟩
                      | exact ⟨rfl, Hid.out ((a6.step (Hid.out (hld9.alloc _))).step b11)⟩
              exact AllReadyH.nil
            refine AllReadyH.cons (o := { dst := some 77, op := Op.convert 42 9 (Operand.tmp 76), type := 9, pos := "law.go:201", after := #[{ on := 15, ground := Ground.data }, { on := 5, ground := Ground.guard }], guard := some (5, true) }) rfl (fun K hK => ?_) ?_
            · skip
              go_simp
              refine hK.out _ _ (hkeep _ hldZ) (fun hHeld => ?_)
              clear hK K
              try simp only [Act.put, List.setIfInBounds_toArray, List.set_cons_zero, List.set_cons_succ]
              refine wpAnyH_ready (rs := [14]) (by kernel_rfl) (by simp) ?_
              refine AllReadyH.cons (o := { dst := some 75, op := Op.call { callee := Callee.value (Operand.func 12), args := #[Operand.tmp 74], argTypes := #[9] }, type := 9, pos := "law.go:201", after := #[{ on := 13, ground := Ground.data }, { on := 5, ground := Ground.chain }, { on := 5, ground := Ground.guard }], guard := some (5, true) }) rfl (fun K hK => ?_) ?_
              · skip
                go_simp
                refine (Sum_calls ⟨u.toArray⟩ _ (HKw.out _ ((hkeep _ hldZ)).1) (by rw [mk_size]; exact Nat.le_trans hu (by decide))).mono ?_
                rintro e w9 ⟨rfl, b9⟩
                have hld9 := ((hkeep _ hldZ)).1.step b9
                have hc2 := HcvB.out w9 b9
                go_wp2_with fail
                refine hK.out _ _ (hkeep _ hld9) (fun hHeld => ?_)
                clear hK K
                try simp only [Act.put, List.setIfInBounds_toArray, List.set_cons_zero, List.set_cons_succ]
                refine wpAnyH_take (i := 17) (oi := { dst := some 78, op := Op.binOp BinOp.eql 9 (Operand.tmp 75) (Operand.tmp 77) 9, type := 4, pos := "law.go:201", after := #[{ on := 14, ground := Ground.data }, { on := 16, ground := Ground.data }, { on := 5, ground := Ground.guard }], guard := some (5, true) }) (v := ?_) rfl (by kernel_rfl) (by kernel_rfl) (by kernel_rfl) (fun _ _ _ h => h) (Or.inl ⟨by rfl, ?_⟩) (by assumption) ?_
                rotate_left
                · (intro w0 hS0; (try dsimp only at hS0); go_simp) <;> with_reducible rfl
                try simp only [Act.put, List.setIfInBounds_toArray, List.set_cons_zero, List.set_cons_succ]
                refine wpAnyH_take (i := 18) (oi := { dst := some 79, op := Op.pick (Operand.tmp 66) (Operand.tmp 78) (Operand.const (Value.bool false)), type := 4, pos := "law.go:201", after := #[{ on := 5, ground := Ground.data }, { on := 17, ground := Ground.data }], guard := none }) (v := ?_) rfl (by kernel_rfl) (by kernel_rfl) (by kernel_rfl) (fun _ _ _ h => h) (Or.inl ⟨by rfl, ?_⟩) (by assumption) ?_
                rotate_left
                · (intro w0 hS0; (try dsimp only at hS0); go_simp) <;> with_reducible rfl
                try simp only [Act.put, List.setIfInBounds_toArray, List.set_cons_zero, List.set_cons_succ]
                refine wpAnyH_take (i := 19) (oi := { dst := some 12, op := Op.assign (Operand.tmp 79), type := 4, pos := "law.go:201", after := #[{ on := 18, ground := Ground.data }, { on := 14, ground := Ground.chain }, { on := 0, ground := Ground.phase }, { on := 1, ground := Ground.phase }, { on := 2, ground := Ground.phase }, { on := 3, ground := Ground.phase }, { on := 4, ground := Ground.phase }, { on := 5, ground := Ground.phase }, { on := 6, ground := Ground.phase }, { on := 7, ground := Ground.phase }, { on := 8, ground := Ground.phase }, { on := 9, ground := Ground.phase }, { on := 10, ground := Ground.phase }, { on := 11, ground := Ground.phase }, { on := 12, ground := Ground.phase }, { on := 13, ground := Ground.phase }, { on := 14, ground := Ground.phase }, { on := 15, ground := Ground.phase }, { on := 16, ground := Ground.phase }, { on := 17, ground := Ground.phase }, { on := 18, ground := Ground.phase }], guard := none }) (v := ?_) rfl (by kernel_rfl) (by kernel_rfl) (by kernel_rfl) (fun _ _ _ h => h) (Or.inl ⟨by rfl, ?_⟩) (by assumption) ?_
                rotate_left
                · (intro w0 hS0; (try dsimp only at hS0); go_simp) <;> with_reducible rfl
                try simp only [Act.put, List.setIfInBounds_toArray, List.set_cons_zero, List.set_cons_succ]
                refine wpAnyH_done (by kernel_rfl) ?_ _
                refine NoPanic.normal ?_
                rcases Hdz.out with hC | hzero
                · go_wp2_with fail
                  refine (HColT.out _ ?hh hC).mono ?_
                  case hh => first | exact hld9 | exact hld9.alloc _
                  rintro e w11 ⟨rfl, b11⟩
                  go_wp2_with fail
                  go_ret
                  first
                    | exact ⟨rfl, Hid.out ((a6.step (Hid.out hld9)).step b11)⟩
                    | exact ⟨rfl, Hid.out ((a6.step (Hid.out (hld9.alloc _))).step b11)⟩
                · have hbe : (shaF u == zero32) = true := by rw [hzero]; exact beq_self_eq_true _
                  rw [hbe]
                  go_wp2_with fail
                  refine (HColA.out _ ?hh).mono ?_
                  case hh => first | exact hld9 | exact hld9.alloc _
                  rintro e w11 ⟨⟨z, rfl⟩, b11⟩
                  cases z
                  all_goals
                    go_wp2_with fail
                    go_ret
                    first
                      | exact ⟨rfl, Hid.out ((a6.step (Hid.out hld9)).step b11)⟩
                      | exact ⟨rfl, Hid.out ((a6.step (Hid.out (hld9.alloc _))).step b11)⟩
              exact AllReadyH.nil
            exact AllReadyH.nil
          exact AllReadyH.nil
        refine AllReadyH.cons (o := { dst := some 76, op := Op.makeSlice 42 (Operand.const (Value.int IntKind.i64 32)) (Operand.const (Value.int IntKind.i64 32)), type := 42, pos := "law.go:201", after := #[{ on := 5, ground := Ground.guard }], guard := some (5, true) }) rfl (fun K hK => ?_) ?_
        · skip
          go_simp
          refine hK.out _ _ (hkeep _ hldZ) (fun hHeld => ?_)
          clear hK K
          try simp only [Act.put, List.setIfInBounds_toArray, List.set_cons_zero, List.set_cons_succ]
          refine wpAnyH_ready (rs := [11, 16]) (by kernel_rfl) (by simp) ?_
          refine AllReadyH.cons (o := { dst := some 72, op := Op.call { callee := Callee.builtin Builtin.min, args := #[Operand.tmp 69, Operand.tmp 71], argTypes := #[3, 3] }, type := 3, pos := "law.go:201", after := #[{ on := 8, ground := Ground.data }, { on := 10, ground := Ground.data }, { on := 5, ground := Ground.guard }], guard := some (5, true) }) rfl (fun K hK => ?_) ?_
          · skip
            go_simp
            refine hK.out _ _ (hkeep _ hldZ) (fun hHeld => ?_)
            clear hK K
            try simp only [Act.put, List.setIfInBounds_toArray, List.set_cons_zero, List.set_cons_succ]
            refine wpAnyH_take (i := 12) (oi := { dst := some 73, op := Op.indexAddr 26 (Operand.tmp 67) (Operand.tmp 72), type := 0, pos := "law.go:201", after := #[{ on := 6, ground := Ground.data }, { on := 11, ground := Ground.data }, { on := 5, ground := Ground.guard }], guard := some (5, true) }) (v := ?_) rfl (by kernel_rfl) (by kernel_rfl) (by kernel_rfl) (fun _ _ _ h => h) (Or.inl ⟨by rfl, ?_⟩) (by assumption) ?_
            rotate_left
            · (intro w0 hS0; (try dsimp only at hS0); go_simp) <;> with_reducible rfl
            try simp only [Act.put, List.setIfInBounds_toArray, List.set_cons_zero, List.set_cons_succ]
            refine wpAnyH_take (i := 13) (oi := { dst := some 74, op := Op.load 9 (Operand.tmp 73), type := 9, pos := "law.go:201", after := #[{ on := 12, ground := Ground.data }, { on := 5, ground := Ground.guard }], guard := some (5, true) }) (v := ?_) rfl (by kernel_rfl) (by kernel_rfl) (by kernel_rfl) (fun _ _ _ h => h) (Or.inl ⟨by rfl, ?_⟩) (by assumption) ?_
            rotate_left
            · (intro w0 hS0; (try dsimp only at hS0); go_simp) <;> with_reducible rfl
            try simp only [Act.put, List.setIfInBounds_toArray, List.set_cons_zero, List.set_cons_succ]
            refine wpAnyH_ready (rs := [14, 16]) (by kernel_rfl) (by simp) ?_
            refine AllReadyH.cons (o := { dst := some 75, op := Op.call { callee := Callee.value (Operand.func 12), args := #[Operand.tmp 74], argTypes := #[9] }, type := 9, pos := "law.go:201", after := #[{ on := 13, ground := Ground.data }, { on := 5, ground := Ground.chain }, { on := 5, ground := Ground.guard }], guard := some (5, true) }) rfl (fun K hK => ?_) ?_
            · skip
              go_simp
              refine (Sum_calls ⟨u.toArray⟩ _ (HKw.out _ ((hkeep _ hldZ)).1) (by rw [mk_size]; exact Nat.le_trans hu (by decide))).mono ?_
              rintro e w9 ⟨rfl, b9⟩
              have hld9 := ((hkeep _ hldZ)).1.step b9
              have hc2 := HcvB.out w9 b9
              go_wp2_with fail
              refine hK.out _ _ (hkeep _ hld9) (fun hHeld => ?_)
              clear hK K
              try simp only [Act.put, List.setIfInBounds_toArray, List.set_cons_zero, List.set_cons_succ]
              refine wpAnyH_ready (rs := [16]) (by kernel_rfl) (by simp) ?_
              refine AllReadyH.cons (o := { dst := some 77, op := Op.convert 42 9 (Operand.tmp 76), type := 9, pos := "law.go:201", after := #[{ on := 15, ground := Ground.data }, { on := 5, ground := Ground.guard }], guard := some (5, true) }) rfl (fun K hK => ?_) ?_
              · skip
                go_simp
                refine hK.out _ _ (hkeep _ hld9) (fun hHeld => ?_)
                clear hK K
                try simp only [Act.put, List.setIfInBounds_toArray, List.set_cons_zero, List.set_cons_succ]
                refine wpAnyH_take (i := 17) (oi := { dst := some 78, op := Op.binOp BinOp.eql 9 (Operand.tmp 75) (Operand.tmp 77) 9, type := 4, pos := "law.go:201", after := #[{ on := 14, ground := Ground.data }, { on := 16, ground := Ground.data }, { on := 5, ground := Ground.guard }], guard := some (5, true) }) (v := ?_) rfl (by kernel_rfl) (by kernel_rfl) (by kernel_rfl) (fun _ _ _ h => h) (Or.inl ⟨by rfl, ?_⟩) (by assumption) ?_
                rotate_left
                · (intro w0 hS0; (try dsimp only at hS0); go_simp) <;> with_reducible rfl
                try simp only [Act.put, List.setIfInBounds_toArray, List.set_cons_zero, List.set_cons_succ]
                refine wpAnyH_take (i := 18) (oi := { dst := some 79, op := Op.pick (Operand.tmp 66) (Operand.tmp 78) (Operand.const (Value.bool false)), type := 4, pos := "law.go:201", after := #[{ on := 5, ground := Ground.data }, { on := 17, ground := Ground.data }], guard := none }) (v := ?_) rfl (by kernel_rfl) (by kernel_rfl) (by kernel_rfl) (fun _ _ _ h => h) (Or.inl ⟨by rfl, ?_⟩) (by assumption) ?_
                rotate_left
                · (intro w0 hS0; (try dsimp only at hS0); go_simp) <;> with_reducible rfl
                try simp only [Act.put, List.setIfInBounds_toArray, List.set_cons_zero, List.set_cons_succ]
                refine wpAnyH_take (i := 19) (oi := { dst := some 12, op := Op.assign (Operand.tmp 79), type := 4, pos := "law.go:201", after := #[{ on := 18, ground := Ground.data }, { on := 14, ground := Ground.chain }, { on := 0, ground := Ground.phase }, { on := 1, ground := Ground.phase }, { on := 2, ground := Ground.phase }, { on := 3, ground := Ground.phase }, { on := 4, ground := Ground.phase }, { on := 5, ground := Ground.phase }, { on := 6, ground := Ground.phase }, { on := 7, ground := Ground.phase }, { on := 8, ground := Ground.phase }, { on := 9, ground := Ground.phase }, { on := 10, ground := Ground.phase }, { on := 11, ground := Ground.phase }, { on := 12, ground := Ground.phase }, { on := 13, ground := Ground.phase }, { on := 14, ground := Ground.phase }, { on := 15, ground := Ground.phase }, { on := 16, ground := Ground.phase }, { on := 17, ground := Ground.phase }, { on := 18, ground := Ground.phase }], guard := none }) (v := ?_) rfl (by kernel_rfl) (by kernel_rfl) (by kernel_rfl) (fun _ _ _ h => h) (Or.inl ⟨by rfl, ?_⟩) (by assumption) ?_
                rotate_left
                · (intro w0 hS0; (try dsimp only at hS0); go_simp) <;> with_reducible rfl
                try simp only [Act.put, List.setIfInBounds_toArray, List.set_cons_zero, List.set_cons_succ]
                refine wpAnyH_done (by kernel_rfl) ?_ _
                refine NoPanic.normal ?_
                rcases Hdz.out with hC | hzero
                · go_wp2_with fail
                  refine (HColT.out _ ?hh hC).mono ?_
                  case hh => first | exact hld9 | exact hld9.alloc _
                  rintro e w11 ⟨rfl, b11⟩
                  go_wp2_with fail
                  go_ret
                  first
                    | exact ⟨rfl, Hid.out ((a6.step (Hid.out hld9)).step b11)⟩
                    | exact ⟨rfl, Hid.out ((a6.step (Hid.out (hld9.alloc _))).step b11)⟩
                · have hbe : (shaF u == zero32) = true := by rw [hzero]; exact beq_self_eq_true _
                  rw [hbe]
                  go_wp2_with fail
                  refine (HColA.out _ ?hh).mono ?_
                  case hh => first | exact hld9 | exact hld9.alloc _
                  rintro e w11 ⟨⟨z, rfl⟩, b11⟩
                  cases z
                  all_goals
                    go_wp2_with fail
                    go_ret
                    first
                      | exact ⟨rfl, Hid.out ((a6.step (Hid.out hld9)).step b11)⟩
                      | exact ⟨rfl, Hid.out ((a6.step (Hid.out (hld9.alloc _))).step b11)⟩
              exact AllReadyH.nil
            refine AllReadyH.cons (o := { dst := some 77, op := Op.convert 42 9 (Operand.tmp 76), type := 9, pos := "law.go:201", after := #[{ on := 15, ground := Ground.data }, { on := 5, ground := Ground.guard }], guard := some (5, true) }) rfl (fun K hK => ?_) ?_
            · skip
              go_simp
              refine hK.out _ _ (hkeep _ hldZ) (fun hHeld => ?_)
              clear hK K
              try simp only [Act.put, List.setIfInBounds_toArray, List.set_cons_zero, List.set_cons_succ]
              refine wpAnyH_ready (rs := [14]) (by kernel_rfl) (by simp) ?_
              refine AllReadyH.cons (o := { dst := some 75, op := Op.call { callee := Callee.value (Operand.func 12), args := #[Operand.tmp 74], argTypes := #[9] }, type := 9, pos := "law.go:201", after := #[{ on := 13, ground := Ground.data }, { on := 5, ground := Ground.chain }, { on := 5, ground := Ground.guard }], guard := some (5, true) }) rfl (fun K hK => ?_) ?_
              · skip
                go_simp
                refine (Sum_calls ⟨u.toArray⟩ _ (HKw.out _ ((hkeep _ hldZ)).1) (by rw [mk_size]; exact Nat.le_trans hu (by decide))).mono ?_
                rintro e w9 ⟨rfl, b9⟩
                have hld9 := ((hkeep _ hldZ)).1.step b9
                have hc2 := HcvB.out w9 b9
                go_wp2_with fail
                refine hK.out _ _ (hkeep _ hld9) (fun hHeld => ?_)
                clear hK K
                try simp only [Act.put, List.setIfInBounds_toArray, List.set_cons_zero, List.set_cons_succ]
                refine wpAnyH_take (i := 17) (oi := { dst := some 78, op := Op.binOp BinOp.eql 9 (Operand.tmp 75) (Operand.tmp 77) 9, type := 4, pos := "law.go:201", after := #[{ on := 14, ground := Ground.data }, { on := 16, ground := Ground.data }, { on := 5, ground := Ground.guard }], guard := some (5, true) }) (v := ?_) rfl (by kernel_rfl) (by kernel_rfl) (by kernel_rfl) (fun _ _ _ h => h) (Or.inl ⟨by rfl, ?_⟩) (by assumption) ?_
                rotate_left
                · (intro w0 hS0; (try dsimp only at hS0); go_simp) <;> with_reducible rfl
                try simp only [Act.put, List.setIfInBounds_toArray, List.set_cons_zero, List.set_cons_succ]
                refine wpAnyH_take (i := 18) (oi := { dst := some 79, op := Op.pick (Operand.tmp 66) (Operand.tmp 78) (Operand.const (Value.bool false)), type := 4, pos := "law.go:201", after := #[{ on := 5, ground := Ground.data }, { on := 17, ground := Ground.data }], guard := none }) (v := ?_) rfl (by kernel_rfl) (by kernel_rfl) (by kernel_rfl) (fun _ _ _ h => h) (Or.inl ⟨by rfl, ?_⟩) (by assumption) ?_
                rotate_left
                · (intro w0 hS0; (try dsimp only at hS0); go_simp) <;> with_reducible rfl
                try simp only [Act.put, List.setIfInBounds_toArray, List.set_cons_zero, List.set_cons_succ]
                refine wpAnyH_take (i := 19) (oi := { dst := some 12, op := Op.assign (Operand.tmp 79), type := 4, pos := "law.go:201", after := #[{ on := 18, ground := Ground.data }, { on := 14, ground := Ground.chain }, { on := 0, ground := Ground.phase }, { on := 1, ground := Ground.phase }, { on := 2, ground := Ground.phase }, { on := 3, ground := Ground.phase }, { on := 4, ground := Ground.phase }, { on := 5, ground := Ground.phase }, { on := 6, ground := Ground.phase }, { on := 7, ground := Ground.phase }, { on := 8, ground := Ground.phase }, { on := 9, ground := Ground.phase }, { on := 10, ground := Ground.phase }, { on := 11, ground := Ground.phase }, { on := 12, ground := Ground.phase }, { on := 13, ground := Ground.phase }, { on := 14, ground := Ground.phase }, { on := 15, ground := Ground.phase }, { on := 16, ground := Ground.phase }, { on := 17, ground := Ground.phase }, { on := 18, ground := Ground.phase }], guard := none }) (v := ?_) rfl (by kernel_rfl) (by kernel_rfl) (by kernel_rfl) (fun _ _ _ h => h) (Or.inl ⟨by rfl, ?_⟩) (by assumption) ?_
                rotate_left
                · (intro w0 hS0; (try dsimp only at hS0); go_simp) <;> with_reducible rfl
                try simp only [Act.put, List.setIfInBounds_toArray, List.set_cons_zero, List.set_cons_succ]
                refine wpAnyH_done (by kernel_rfl) ?_ _
                refine NoPanic.normal ?_
                rcases Hdz.out with hC | hzero
                · go_wp2_with fail
                  refine (HColT.out _ ?hh hC).mono ?_
                  case hh => first | exact hld9 | exact hld9.alloc _
                  rintro e w11 ⟨rfl, b11⟩
                  go_wp2_with fail
                  go_ret
                  first
                    | exact ⟨rfl, Hid.out ((a6.step (Hid.out hld9)).step b11)⟩
                    | exact ⟨rfl, Hid.out ((a6.step (Hid.out (hld9.alloc _))).step b11)⟩
                · have hbe : (shaF u == zero32) = true := by rw [hzero]; exact beq_self_eq_true _
                  rw [hbe]
                  go_wp2_with fail
                  refine (HColA.out _ ?hh).mono ?_
                  case hh => first | exact hld9 | exact hld9.alloc _
                  rintro e w11 ⟨⟨z, rfl⟩, b11⟩
                  cases z
                  all_goals
                    go_wp2_with fail
                    go_ret
                    first
                      | exact ⟨rfl, Hid.out ((a6.step (Hid.out hld9)).step b11)⟩
                      | exact ⟨rfl, Hid.out ((a6.step (Hid.out (hld9.alloc _))).step b11)⟩
              exact AllReadyH.nil
            exact AllReadyH.nil
          refine AllReadyH.cons (o := { dst := some 77, op := Op.convert 42 9 (Operand.tmp 76), type := 9, pos := "law.go:201", after := #[{ on := 15, ground := Ground.data }, { on := 5, ground := Ground.guard }], guard := some (5, true) }) rfl (fun K hK => ?_) ?_
          · skip
            go_simp
            refine hK.out _ _ (hkeep _ hldZ) (fun hHeld => ?_)
            clear hK K
            try simp only [Act.put, List.setIfInBounds_toArray, List.set_cons_zero, List.set_cons_succ]
            refine wpAnyH_ready (rs := [11]) (by kernel_rfl) (by simp) ?_
            refine AllReadyH.cons (o := { dst := some 72, op := Op.call { callee := Callee.builtin Builtin.min, args := #[Operand.tmp 69, Operand.tmp 71], argTypes := #[3, 3] }, type := 3, pos := "law.go:201", after := #[{ on := 8, ground := Ground.data }, { on := 10, ground := Ground.data }, { on := 5, ground := Ground.guard }], guard := some (5, true) }) rfl (fun K hK => ?_) ?_
            · skip
              go_simp
              refine hK.out _ _ (hkeep _ hldZ) (fun hHeld => ?_)
              clear hK K
              try simp only [Act.put, List.setIfInBounds_toArray, List.set_cons_zero, List.set_cons_succ]
              refine wpAnyH_take (i := 12) (oi := { dst := some 73, op := Op.indexAddr 26 (Operand.tmp 67) (Operand.tmp 72), type := 0, pos := "law.go:201", after := #[{ on := 6, ground := Ground.data }, { on := 11, ground := Ground.data }, { on := 5, ground := Ground.guard }], guard := some (5, true) }) (v := ?_) rfl (by kernel_rfl) (by kernel_rfl) (by kernel_rfl) (fun _ _ _ h => h) (Or.inl ⟨by rfl, ?_⟩) (by assumption) ?_
              rotate_left
              · (intro w0 hS0; (try dsimp only at hS0); go_simp) <;> with_reducible rfl
              try simp only [Act.put, List.setIfInBounds_toArray, List.set_cons_zero, List.set_cons_succ]
              refine wpAnyH_take (i := 13) (oi := { dst := some 74, op := Op.load 9 (Operand.tmp 73), type := 9, pos := "law.go:201", after := #[{ on := 12, ground := Ground.data }, { on := 5, ground := Ground.guard }], guard := some (5, true) }) (v := ?_) rfl (by kernel_rfl) (by kernel_rfl) (by kernel_rfl) (fun _ _ _ h => h) (Or.inl ⟨by rfl, ?_⟩) (by assumption) ?_
              rotate_left
              · (intro w0 hS0; (try dsimp only at hS0); go_simp) <;> with_reducible rfl
              try simp only [Act.put, List.setIfInBounds_toArray, List.set_cons_zero, List.set_cons_succ]
              refine wpAnyH_ready (rs := [14]) (by kernel_rfl) (by simp) ?_
              refine AllReadyH.cons (o := { dst := some 75, op := Op.call { callee := Callee.value (Operand.func 12), args := #[Operand.tmp 74], argTypes := #[9] }, type := 9, pos := "law.go:201", after := #[{ on := 13, ground := Ground.data }, { on := 5, ground := Ground.chain }, { on := 5, ground := Ground.guard }], guard := some (5, true) }) rfl (fun K hK => ?_) ?_
              · skip
                go_simp
                refine (Sum_calls ⟨u.toArray⟩ _ (HKw.out _ ((hkeep _ hldZ)).1) (by rw [mk_size]; exact Nat.le_trans hu (by decide))).mono ?_
                rintro e w9 ⟨rfl, b9⟩
                have hld9 := ((hkeep _ hldZ)).1.step b9
                have hc2 := HcvB.out w9 b9
                go_wp2_with fail
                refine hK.out _ _ (hkeep _ hld9) (fun hHeld => ?_)
                clear hK K
                try simp only [Act.put, List.setIfInBounds_toArray, List.set_cons_zero, List.set_cons_succ]
                refine wpAnyH_take (i := 17) (oi := { dst := some 78, op := Op.binOp BinOp.eql 9 (Operand.tmp 75) (Operand.tmp 77) 9, type := 4, pos := "law.go:201", after := #[{ on := 14, ground := Ground.data }, { on := 16, ground := Ground.data }, { on := 5, ground := Ground.guard }], guard := some (5, true) }) (v := ?_) rfl (by kernel_rfl) (by kernel_rfl) (by kernel_rfl) (fun _ _ _ h => h) (Or.inl ⟨by rfl, ?_⟩) (by assumption) ?_
                rotate_left
                · (intro w0 hS0; (try dsimp only at hS0); go_simp) <;> with_reducible rfl
                try simp only [Act.put, List.setIfInBounds_toArray, List.set_cons_zero, List.set_cons_succ]
                refine wpAnyH_take (i := 18) (oi := { dst := some 79, op := Op.pick (Operand.tmp 66) (Operand.tmp 78) (Operand.const (Value.bool false)), type := 4, pos := "law.go:201", after := #[{ on := 5, ground := Ground.data }, { on := 17, ground := Ground.data }], guard := none }) (v := ?_) rfl (by kernel_rfl) (by kernel_rfl) (by kernel_rfl) (fun _ _ _ h => h) (Or.inl ⟨by rfl, ?_⟩) (by assumption) ?_
                rotate_left
                · (intro w0 hS0; (try dsimp only at hS0); go_simp) <;> with_reducible rfl
                try simp only [Act.put, List.setIfInBounds_toArray, List.set_cons_zero, List.set_cons_succ]
                refine wpAnyH_take (i := 19) (oi := { dst := some 12, op := Op.assign (Operand.tmp 79), type := 4, pos := "law.go:201", after := #[{ on := 18, ground := Ground.data }, { on := 14, ground := Ground.chain }, { on := 0, ground := Ground.phase }, { on := 1, ground := Ground.phase }, { on := 2, ground := Ground.phase }, { on := 3, ground := Ground.phase }, { on := 4, ground := Ground.phase }, { on := 5, ground := Ground.phase }, { on := 6, ground := Ground.phase }, { on := 7, ground := Ground.phase }, { on := 8, ground := Ground.phase }, { on := 9, ground := Ground.phase }, { on := 10, ground := Ground.phase }, { on := 11, ground := Ground.phase }, { on := 12, ground := Ground.phase }, { on := 13, ground := Ground.phase }, { on := 14, ground := Ground.phase }, { on := 15, ground := Ground.phase }, { on := 16, ground := Ground.phase }, { on := 17, ground := Ground.phase }, { on := 18, ground := Ground.phase }], guard := none }) (v := ?_) rfl (by kernel_rfl) (by kernel_rfl) (by kernel_rfl) (fun _ _ _ h => h) (Or.inl ⟨by rfl, ?_⟩) (by assumption) ?_
                rotate_left
                · (intro w0 hS0; (try dsimp only at hS0); go_simp) <;> with_reducible rfl
                try simp only [Act.put, List.setIfInBounds_toArray, List.set_cons_zero, List.set_cons_succ]
                refine wpAnyH_done (by kernel_rfl) ?_ _
                refine NoPanic.normal ?_
                rcases Hdz.out with hC | hzero
                · go_wp2_with fail
                  refine (HColT.out _ ?hh hC).mono ?_
                  case hh => first | exact hld9 | exact hld9.alloc _
                  rintro e w11 ⟨rfl, b11⟩
                  go_wp2_with fail
                  go_ret
                  first
                    | exact ⟨rfl, Hid.out ((a6.step (Hid.out hld9)).step b11)⟩
                    | exact ⟨rfl, Hid.out ((a6.step (Hid.out (hld9.alloc _))).step b11)⟩
                · have hbe : (shaF u == zero32) = true := by rw [hzero]; exact beq_self_eq_true _
                  rw [hbe]
                  go_wp2_with fail
                  refine (HColA.out _ ?hh).mono ?_
                  case hh => first | exact hld9 | exact hld9.alloc _
                  rintro e w11 ⟨⟨z, rfl⟩, b11⟩
                  cases z
                  all_goals
                    go_wp2_with fail
                    go_ret
                    first
                      | exact ⟨rfl, Hid.out ((a6.step (Hid.out hld9)).step b11)⟩
                      | exact ⟨rfl, Hid.out ((a6.step (Hid.out (hld9.alloc _))).step b11)⟩
              exact AllReadyH.nil
            exact AllReadyH.nil
          exact AllReadyH.nil
        exact AllReadyH.nil
      · subst heq
        have hC : Collide shaF X Y := by
          rcases Hdis.out with h | ⟨h1, _⟩ | ⟨h1, _⟩
          · exact h
          · exact absurd h1 (by omega)
          · exact absurd h1 (by omega)
        have HC := Lib.hid hC
        clear hC hXl hYl Hdis hmk hc1
        have q1 : ((np : Int) != (np : Int)) = false := by simp
        have q5 : ¬ (np : Int) < (np : Int) := by omega
        go_wp2_with fail
        go_quiet (fail)
        all_goals
          have hE : Hld w6 (w6.drewN nq) := Lib.hid (below_drewN (Below.refl _ _) nq)
          go_wp2_with fail
          refine (HColT.out _ hE HC.out).mono ?_
          rintro e w11 ⟨rfl, b11⟩
          go_wp2_with fail
          go_ret
          exact ⟨rfl, Hid.out ((a6.step (Hid.out hE)).step b11)⟩
      · have hlies : ∃ g, A4 = some ⟨g, 0, none⟩ := by
          rcases l4 with ⟨_, _, h⟩ | h
          · omega
          · exact h
        obtain ⟨g, hg⟩ := hlies
        subst hg
        have c6' := x6.cellAt nq (by omega)
        have hu : (X.getD nq []).length ≤ 1000000000 := HXs.out _ (by
          rw [List.getD_eq_getElem?_getD, List.getElem?_eq_getElem (by omega)]; exact List.getElem_mem _)
        have Hdz : Hid (Collide shaF X Y ∨ shaF (X.getD nq []) = zero32) := Lib.hid (by
          rcases Hdis.out with h | ⟨h1, u, h2, h3⟩ | ⟨h1, u, h2, h3⟩
          · exact Or.inl h
          · exact absurd h1 (by omega)
          · exact Or.inr (by rw [List.getD_eq_getElem?_getD, h2]; exact h3))
        generalize X.getD nq [] = u at *
        have hmin : ∀ ts ty W, (Builtin.min_ ts ty #[.int .i64 (np : Int), .int .i64 (nq : Int)]).run Tryd.prog W = .ok (.int .i64 (nq : Int)) W := fun ts ty W => by rw [run_min2, show min (np : Int) (nq : Int) = (nq : Int) by omega]
        have hkeep : ∀ W', Hld w6 W' → Hld w6 W' ∧ W'.cell? ⟨g, nq, none⟩ = some (.string ⟨u.toArray⟩) := fun W' h => ⟨h, ((Hid.out h).cell (p := ⟨g, nq, none⟩) (lt_of_cell c6')).trans c6'⟩
        have q1 : ((np : Int) != (nq : Int)) = true := by rw [bne_iff_ne]; omega
        have q2 : ((np : Int) == (nq : Int)) = false := by rw [beq_eq_false_iff_ne]; omega
        have q3 : (nq : Int) < (np : Int) := by omega
        have q4 : (np : Int) ≤ (c4 : Int) := by omega
        have q5 : (nq : Int) ≤ (np : Int) := by omega
        clear hXl hYl Hdis hx20 hy20
        go_wp2_with fail
        refine wp_region_noPanic ?_
        refine wp_region_held_drew (S := (fun w' => Hld w6 w' ∧ w'.cell? ⟨g, nq, none⟩ = some (.string ⟨u.toArray⟩))) (by kernel_rfl) (hkeep _ (Hld.start _)) (fun hHeld => ?_)
        refine wpAnyH_take (i := 0) (oi := { dst := some 61, op := Op.move (Operand.tmp 6), type := 26, pos := "law.go:201", after := #[], guard := none }) (v := ?_) rfl (by kernel_rfl) (by kernel_rfl) (by kernel_rfl) (fun _ _ _ h => h) (Or.inl ⟨by rfl, ?_⟩) (by assumption) ?_
        rotate_left
        · (intro w0 hS0; (try dsimp only at hS0); go_simp) <;> with_reducible rfl
        try simp only [Act.put, List.setIfInBounds_toArray, List.set_cons_zero, List.set_cons_succ]
        refine wpAnyH_take (i := 1) (oi := { dst := some 62, op := Op.call { callee := Callee.builtin Builtin.len, args := #[Operand.tmp 61], argTypes := #[26] }, type := 3, pos := "law.go:201", after := #[{ on := 0, ground := Ground.data }], guard := none }) (v := ?_) rfl (by kernel_rfl) (by kernel_rfl) (by kernel_rfl) (fun _ _ _ h => h) (Or.inl ⟨by rfl, ?_⟩) (by assumption) ?_
        rotate_left
        · (intro w0 hS0; (try dsimp only at hS0); go_simp) <;> with_reducible rfl
        try simp only [Act.put, List.setIfInBounds_toArray, List.set_cons_zero, List.set_cons_succ]
        refine wpAnyH_take (i := 2) (oi := { dst := some 63, op := Op.move (Operand.tmp 8), type := 26, pos := "law.go:201", after := #[], guard := none }) (v := ?_) rfl (by kernel_rfl) (by kernel_rfl) (by kernel_rfl) (fun _ _ _ h => h) (Or.inl ⟨by rfl, ?_⟩) (by assumption) ?_
        rotate_left
        · (intro w0 hS0; (try dsimp only at hS0); go_simp) <;> with_reducible rfl
        try simp only [Act.put, List.setIfInBounds_toArray, List.set_cons_zero, List.set_cons_succ]
        refine wpAnyH_take (i := 3) (oi := { dst := some 64, op := Op.call { callee := Callee.builtin Builtin.len, args := #[Operand.tmp 63], argTypes := #[26] }, type := 3, pos := "law.go:201", after := #[{ on := 2, ground := Ground.data }], guard := none }) (v := ?_) rfl (by kernel_rfl) (by kernel_rfl) (by kernel_rfl) (fun _ _ _ h => h) (Or.inl ⟨by rfl, ?_⟩) (by assumption) ?_
        rotate_left
        · (intro w0 hS0; (try dsimp only at hS0); go_simp) <;> with_reducible rfl
        try simp only [Act.put, List.setIfInBounds_toArray, List.set_cons_zero, List.set_cons_succ]
        refine wpAnyH_take (i := 4) (oi := { dst := some 65, op := Op.binOp BinOp.neq 3 (Operand.tmp 62) (Operand.tmp 64) 3, type := 4, pos := "law.go:201", after := #[{ on := 1, ground := Ground.data }, { on := 3, ground := Ground.data }], guard := none }) (v := ?_) rfl (by kernel_rfl) (by kernel_rfl) (by kernel_rfl) (fun _ _ _ h => h) (Or.inl ⟨by rfl, ?_⟩) (by assumption) ?_
        rotate_left
        · (intro w0 hS0; (try dsimp only at hS0); go_simp) <;> with_reducible rfl
        try simp only [Act.put, List.setIfInBounds_toArray, List.set_cons_zero, List.set_cons_succ]
        refine wpAnyH_take (i := 5) (oi := { dst := some 66, op := Op.move (Operand.tmp 65), type := 4, pos := "law.go:201", after := #[{ on := 4, ground := Ground.data }], guard := none }) (v := ?_) rfl (by kernel_rfl) (by kernel_rfl) (by kernel_rfl) (fun _ _ _ h => h) (Or.inl ⟨by rfl, ?_⟩) (by assumption) ?_
        rotate_left
        · (intro w0 hS0; (try dsimp only at hS0); go_simp) <;> with_reducible rfl
        try simp only [Act.put, List.setIfInBounds_toArray, List.set_cons_zero, List.set_cons_succ]
        refine wpAnyH_take (i := 6) (oi := { dst := some 67, op := Op.move (Operand.tmp 11), type := 26, pos := "law.go:201", after := #[{ on := 5, ground := Ground.guard }], guard := some (5, true) }) (v := ?_) rfl (by kernel_rfl) (by kernel_rfl) (by kernel_rfl) (fun _ _ _ h => h) (Or.inl ⟨by rfl, ?_⟩) (by assumption) ?_
        rotate_left
        · (intro w0 hS0; (try dsimp only at hS0); go_simp) <;> with_reducible rfl
        try simp only [Act.put, List.setIfInBounds_toArray, List.set_cons_zero, List.set_cons_succ]
        refine wpAnyH_take (i := 7) (oi := { dst := some 68, op := Op.move (Operand.tmp 6), type := 26, pos := "law.go:201", after := #[{ on := 5, ground := Ground.guard }], guard := some (5, true) }) (v := ?_) rfl (by kernel_rfl) (by kernel_rfl) (by kernel_rfl) (fun _ _ _ h => h) (Or.inl ⟨by rfl, ?_⟩) (by assumption) ?_
        rotate_left
        · (intro w0 hS0; (try dsimp only at hS0); go_simp) <;> with_reducible rfl
        try simp only [Act.put, List.setIfInBounds_toArray, List.set_cons_zero, List.set_cons_succ]
        refine wpAnyH_take (i := 8) (oi := { dst := some 69, op := Op.call { callee := Callee.builtin Builtin.len, args := #[Operand.tmp 68], argTypes := #[26] }, type := 3, pos := "law.go:201", after := #[{ on := 7, ground := Ground.data }, { on := 5, ground := Ground.guard }], guard := some (5, true) }) (v := ?_) rfl (by kernel_rfl) (by kernel_rfl) (by kernel_rfl) (fun _ _ _ h => h) (Or.inl ⟨by rfl, ?_⟩) (by assumption) ?_
        rotate_left
        · (intro w0 hS0; (try dsimp only at hS0); go_simp) <;> with_reducible rfl
        try simp only [Act.put, List.setIfInBounds_toArray, List.set_cons_zero, List.set_cons_succ]
        refine wpAnyH_take (i := 9) (oi := { dst := some 70, op := Op.move (Operand.tmp 8), type := 26, pos := "law.go:201", after := #[{ on := 5, ground := Ground.guard }], guard := some (5, true) }) (v := ?_) rfl (by kernel_rfl) (by kernel_rfl) (by kernel_rfl) (fun _ _ _ h => h) (Or.inl ⟨by rfl, ?_⟩) (by assumption) ?_
        rotate_left
        · (intro w0 hS0; (try dsimp only at hS0); go_simp) <;> with_reducible rfl
        try simp only [Act.put, List.setIfInBounds_toArray, List.set_cons_zero, List.set_cons_succ]
        refine wpAnyH_take (i := 10) (oi := { dst := some 71, op := Op.call { callee := Callee.builtin Builtin.len, args := #[Operand.tmp 70], argTypes := #[26] }, type := 3, pos := "law.go:201", after := #[{ on := 9, ground := Ground.data }, { on := 5, ground := Ground.guard }], guard := some (5, true) }) (v := ?_) rfl (by kernel_rfl) (by kernel_rfl) (by kernel_rfl) (fun _ _ _ h => h) (Or.inl ⟨by rfl, ?_⟩) (by assumption) ?_
        rotate_left
        · (intro w0 hS0; (try dsimp only at hS0); go_simp) <;> with_reducible rfl
        try simp only [Act.put, List.setIfInBounds_toArray, List.set_cons_zero, List.set_cons_succ]
        refine wpAnyH_ready (rs := [11, 15]) (by kernel_rfl) (by simp) ?_
        refine AllReadyH.cons (o := { dst := some 72, op := Op.call { callee := Callee.builtin Builtin.min, args := #[Operand.tmp 69, Operand.tmp 71], argTypes := #[3, 3] }, type := 3, pos := "law.go:201", after := #[{ on := 8, ground := Ground.data }, { on := 10, ground := Ground.data }, { on := 5, ground := Ground.guard }], guard := some (5, true) }) rfl (fun K hK => ?_) ?_
        · skip
          go_simp
          refine hK.out _ _ (hkeep _ (Hld.start w6)) (fun hHeld => ?_)
          clear hK K
          try simp only [Act.put, List.setIfInBounds_toArray, List.set_cons_zero, List.set_cons_succ]
          refine wpAnyH_take (i := 12) (oi := { dst := some 73, op := Op.indexAddr 26 (Operand.tmp 67) (Operand.tmp 72), type := 0, pos := "law.go:201", after := #[{ on := 6, ground := Ground.data }, { on := 11, ground := Ground.data }, { on := 5, ground := Ground.guard }], guard := some (5, true) }) (v := ?_) rfl (by kernel_rfl) (by kernel_rfl) (by kernel_rfl) (fun _ _ _ h => h) (Or.inl ⟨by rfl, ?_⟩) (by assumption) ?_
          rotate_left
          · (intro w0 hS0; (try dsimp only at hS0); go_simp) <;> with_reducible rfl
          try simp only [Act.put, List.setIfInBounds_toArray, List.set_cons_zero, List.set_cons_succ]
          refine wpAnyH_take (i := 13) (oi := { dst := some 74, op := Op.load 9 (Operand.tmp 73), type := 9, pos := "law.go:201", after := #[{ on := 12, ground := Ground.data }, { on := 5, ground := Ground.guard }], guard := some (5, true) }) (v := ?_) rfl (by kernel_rfl) (by kernel_rfl) (by kernel_rfl) (fun _ _ _ h => h) (Or.inl ⟨by rfl, ?_⟩) (by assumption) ?_
          rotate_left
          · (intro w0 hS0; (try dsimp only at hS0); go_simp) <;> with_reducible rfl
          try simp only [Act.put, List.setIfInBounds_toArray, List.set_cons_zero, List.set_cons_succ]
          refine wpAnyH_ready (rs := [14, 15]) (by kernel_rfl) (by simp) ?_
          refine AllReadyH.cons (o := { dst := some 75, op := Op.call { callee := Callee.value (Operand.func 12), args := #[Operand.tmp 74], argTypes := #[9] }, type := 9, pos := "law.go:201", after := #[{ on := 13, ground := Ground.data }, { on := 5, ground := Ground.chain }, { on := 5, ground := Ground.guard }], guard := some (5, true) }) rfl (fun K hK => ?_) ?_
          · skip
            go_simp
            refine (Sum_calls ⟨u.toArray⟩ _ (HKw.out _ ((hkeep _ (Hld.start w6))).1) (by rw [mk_size]; exact Nat.le_trans hu (by decide))).mono ?_
            rintro e w9 ⟨rfl, b9⟩
            have hld9 := ((hkeep _ (Hld.start w6))).1.step b9
            have hc3 := HcvA.out w9
            go_wp2_with fail
            refine hK.out _ _ (hkeep _ hld9) (fun hHeld => ?_)
            clear hK K
            try simp only [Act.put, List.setIfInBounds_toArray, List.set_cons_zero, List.set_cons_succ]
            refine wpAnyH_ready (rs := [15]) (by kernel_rfl) (by simp) ?_
            refine AllReadyH.cons (o := { dst := some 76, op := Op.makeSlice 42 (Operand.const (Value.int IntKind.i64 32)) (Operand.const (Value.int IntKind.i64 32)), type := 42, pos := "law.go:201", after := #[{ on := 5, ground := Ground.guard }], guard := some (5, true) }) rfl (fun K hK => ?_) ?_
            · skip
              go_simp
              refine hK.out _ _ (hkeep _ (Hld.alloc hld9 _)) (fun hHeld => ?_)
              clear hK K
              try simp only [Act.put, List.setIfInBounds_toArray, List.set_cons_zero, List.set_cons_succ]
              refine wpAnyH_ready (rs := [16]) (by kernel_rfl) (by simp) ?_
              refine AllReadyH.cons (o := { dst := some 77, op := Op.convert 42 9 (Operand.tmp 76), type := 9, pos := "law.go:201", after := #[{ on := 15, ground := Ground.data }, { on := 5, ground := Ground.guard }], guard := some (5, true) }) rfl (fun K hK => ?_) ?_
              · skip
                go_simp
                refine hK.out _ _ (hkeep _ (Hld.alloc hld9 _)) (fun hHeld => ?_)
                clear hK K
                try simp only [Act.put, List.setIfInBounds_toArray, List.set_cons_zero, List.set_cons_succ]
                refine wpAnyH_take (i := 17) (oi := { dst := some 78, op := Op.binOp BinOp.eql 9 (Operand.tmp 75) (Operand.tmp 77) 9, type := 4, pos := "law.go:201", after := #[{ on := 14, ground := Ground.data }, { on := 16, ground := Ground.data }, { on := 5, ground := Ground.guard }], guard := some (5, true) }) (v := ?_) rfl (by kernel_rfl) (by kernel_rfl) (by kernel_rfl) (fun _ _ _ h => h) (Or.inl ⟨by rfl, ?_⟩) (by assumption) ?_
                rotate_left
                · (intro w0 hS0; (try dsimp only at hS0); go_simp) <;> with_reducible rfl
                try simp only [Act.put, List.setIfInBounds_toArray, List.set_cons_zero, List.set_cons_succ]
                refine wpAnyH_take (i := 18) (oi := { dst := some 79, op := Op.pick (Operand.tmp 66) (Operand.tmp 78) (Operand.const (Value.bool false)), type := 4, pos := "law.go:201", after := #[{ on := 5, ground := Ground.data }, { on := 17, ground := Ground.data }], guard := none }) (v := ?_) rfl (by kernel_rfl) (by kernel_rfl) (by kernel_rfl) (fun _ _ _ h => h) (Or.inl ⟨by rfl, ?_⟩) (by assumption) ?_
                rotate_left
                · (intro w0 hS0; (try dsimp only at hS0); go_simp) <;> with_reducible rfl
                try simp only [Act.put, List.setIfInBounds_toArray, List.set_cons_zero, List.set_cons_succ]
                refine wpAnyH_take (i := 19) (oi := { dst := some 12, op := Op.assign (Operand.tmp 79), type := 4, pos := "law.go:201", after := #[{ on := 18, ground := Ground.data }, { on := 14, ground := Ground.chain }, { on := 0, ground := Ground.phase }, { on := 1, ground := Ground.phase }, { on := 2, ground := Ground.phase }, { on := 3, ground := Ground.phase }, { on := 4, ground := Ground.phase }, { on := 5, ground := Ground.phase }, { on := 6, ground := Ground.phase }, { on := 7, ground := Ground.phase }, { on := 8, ground := Ground.phase }, { on := 9, ground := Ground.phase }, { on := 10, ground := Ground.phase }, { on := 11, ground := Ground.phase }, { on := 12, ground := Ground.phase }, { on := 13, ground := Ground.phase }, { on := 14, ground := Ground.phase }, { on := 15, ground := Ground.phase }, { on := 16, ground := Ground.phase }, { on := 17, ground := Ground.phase }, { on := 18, ground := Ground.phase }], guard := none }) (v := ?_) rfl (by kernel_rfl) (by kernel_rfl) (by kernel_rfl) (fun _ _ _ h => h) (Or.inl ⟨by rfl, ?_⟩) (by assumption) ?_
                rotate_left
                · (intro w0 hS0; (try dsimp only at hS0); go_simp) <;> with_reducible rfl
                try simp only [Act.put, List.setIfInBounds_toArray, List.set_cons_zero, List.set_cons_succ]
                refine wpAnyH_done (by kernel_rfl) ?_ _
                refine NoPanic.normal ?_
                rcases Hdz.out with hC | hzero
                · go_wp2_with fail
                  refine (HColT.out _ ?hh hC).mono ?_
                  case hh => first | exact hld9 | exact hld9.alloc _
                  rintro e w11 ⟨rfl, b11⟩
                  go_wp2_with fail
                  go_ret
                  first
                    | exact ⟨rfl, Hid.out ((a6.step (Hid.out hld9)).step b11)⟩
                    | exact ⟨rfl, Hid.out ((a6.step (Hid.out (hld9.alloc _))).step b11)⟩
                · have hbe : (shaF u == zero32) = true := by rw [hzero]; exact beq_self_eq_true _
                  rw [hbe]
                  go_wp2_with fail
                  refine (HColA.out _ ?hh).mono ?_
                  case hh => first | exact hld9 | exact hld9.alloc _
                  rintro e w11 ⟨⟨z, rfl⟩, b11⟩
                  cases z
                  all_goals
                    go_wp2_with fail
                    go_ret
                    first
                      | exact ⟨rfl, Hid.out ((a6.step (Hid.out hld9)).step b11)⟩
                      | exact ⟨rfl, Hid.out ((a6.step (Hid.out (hld9.alloc _))).step b11)⟩
              exact AllReadyH.nil
            exact AllReadyH.nil
          refine AllReadyH.cons (o := { dst := some 76, op := Op.makeSlice 42 (Operand.const (Value.int IntKind.i64 32)) (Operand.const (Value.int IntKind.i64 32)), type := 42, pos := "law.go:201", after := #[{ on := 5, ground := Ground.guard }], guard := some (5, true) }) rfl (fun K hK => ?_) ?_
          · skip
            go_simp
            refine hK.out _ _ (hkeep _ hldZ) (fun hHeld => ?_)
            clear hK K
            try simp only [Act.put, List.setIfInBounds_toArray, List.set_cons_zero, List.set_cons_succ]
            refine wpAnyH_ready (rs := [14, 16]) (by kernel_rfl) (by simp) ?_
            refine AllReadyH.cons (o := { dst := some 75, op := Op.call { callee := Callee.value (Operand.func 12), args := #[Operand.tmp 74], argTypes := #[9] }, type := 9, pos := "law.go:201", after := #[{ on := 13, ground := Ground.data }, { on := 5, ground := Ground.chain }, { on := 5, ground := Ground.guard }], guard := some (5, true) }) rfl (fun K hK => ?_) ?_
            · skip
              go_simp
              refine (Sum_calls ⟨u.toArray⟩ _ (HKw.out _ ((hkeep _ hldZ)).1) (by rw [mk_size]; exact Nat.le_trans hu (by decide))).mono ?_
              rintro e w9 ⟨rfl, b9⟩
              have hld9 := ((hkeep _ hldZ)).1.step b9
              have hc2 := HcvB.out w9 b9
              go_wp2_with fail
              refine hK.out _ _ (hkeep _ hld9) (fun hHeld => ?_)
              clear hK K
              try simp only [Act.put, List.setIfInBounds_toArray, List.set_cons_zero, List.set_cons_succ]
              refine wpAnyH_ready (rs := [16]) (by kernel_rfl) (by simp) ?_
              refine AllReadyH.cons (o := { dst := some 77, op := Op.convert 42 9 (Operand.tmp 76), type := 9, pos := "law.go:201", after := #[{ on := 15, ground := Ground.data }, { on := 5, ground := Ground.guard }], guard := some (5, true) }) rfl (fun K hK => ?_) ?_
              · skip
                go_simp
                refine hK.out _ _ (hkeep _ hld9) (fun hHeld => ?_)
                clear hK K
                try simp only [Act.put, List.setIfInBounds_toArray, List.set_cons_zero, List.set_cons_succ]
                refine wpAnyH_take (i := 17) (oi := { dst := some 78, op := Op.binOp BinOp.eql 9 (Operand.tmp 75) (Operand.tmp 77) 9, type := 4, pos := "law.go:201", after := #[{ on := 14, ground := Ground.data }, { on := 16, ground := Ground.data }, { on := 5, ground := Ground.guard }], guard := some (5, true) }) (v := ?_) rfl (by kernel_rfl) (by kernel_rfl) (by kernel_rfl) (fun _ _ _ h => h) (Or.inl ⟨by rfl, ?_⟩) (by assumption) ?_
                rotate_left
                · (intro w0 hS0; (try dsimp only at hS0); go_simp) <;> with_reducible rfl
                try simp only [Act.put, List.setIfInBounds_toArray, List.set_cons_zero, List.set_cons_succ]
                refine wpAnyH_take (i := 18) (oi := { dst := some 79, op := Op.pick (Operand.tmp 66) (Operand.tmp 78) (Operand.const (Value.bool false)), type := 4, pos := "law.go:201", after := #[{ on := 5, ground := Ground.data }, { on := 17, ground := Ground.data }], guard := none }) (v := ?_) rfl (by kernel_rfl) (by kernel_rfl) (by kernel_rfl) (fun _ _ _ h => h) (Or.inl ⟨by rfl, ?_⟩) (by assumption) ?_
                rotate_left
                · (intro w0 hS0; (try dsimp only at hS0); go_simp) <;> with_reducible rfl
                try simp only [Act.put, List.setIfInBounds_toArray, List.set_cons_zero, List.set_cons_succ]
                refine wpAnyH_take (i := 19) (oi := { dst := some 12, op := Op.assign (Operand.tmp 79), type := 4, pos := "law.go:201", after := #[{ on := 18, ground := Ground.data }, { on := 14, ground := Ground.chain }, { on := 0, ground := Ground.phase }, { on := 1, ground := Ground.phase }, { on := 2, ground := Ground.phase }, { on := 3, ground := Ground.phase }, { on := 4, ground := Ground.phase }, { on := 5, ground := Ground.phase }, { on := 6, ground := Ground.phase }, { on := 7, ground := Ground.phase }, { on := 8, ground := Ground.phase }, { on := 9, ground := Ground.phase }, { on := 10, ground := Ground.phase }, { on := 11, ground := Ground.phase }, { on := 12, ground := Ground.phase }, { on := 13, ground := Ground.phase }, { on := 14, ground := Ground.phase }, { on := 15, ground := Ground.phase }, { on := 16, ground := Ground.phase }, { on := 17, ground := Ground.phase }, { on := 18, ground := Ground.phase }], guard := none }) (v := ?_) rfl (by kernel_rfl) (by kernel_rfl) (by kernel_rfl) (fun _ _ _ h => h) (Or.inl ⟨by rfl, ?_⟩) (by assumption) ?_
                rotate_left
                · (intro w0 hS0; (try dsimp only at hS0); go_simp) <;> with_reducible rfl
                try simp only [Act.put, List.setIfInBounds_toArray, List.set_cons_zero, List.set_cons_succ]
                refine wpAnyH_done (by kernel_rfl) ?_ _
                refine NoPanic.normal ?_
                rcases Hdz.out with hC | hzero
                · go_wp2_with fail
                  refine (HColT.out _ ?hh hC).mono ?_
                  case hh => first | exact hld9 | exact hld9.alloc _
                  rintro e w11 ⟨rfl, b11⟩
                  go_wp2_with fail
                  go_ret
                  first
                    | exact ⟨rfl, Hid.out ((a6.step (Hid.out hld9)).step b11)⟩
                    | exact ⟨rfl, Hid.out ((a6.step (Hid.out (hld9.alloc _))).step b11)⟩
                · have hbe : (shaF u == zero32) = true := by rw [hzero]; exact beq_self_eq_true _
                  rw [hbe]
                  go_wp2_with fail
                  refine (HColA.out _ ?hh).mono ?_
                  case hh => first | exact hld9 | exact hld9.alloc _
                  rintro e w11 ⟨⟨z, rfl⟩, b11⟩
                  cases z
                  all_goals
                    go_wp2_with fail
                    go_ret
                    first
                      | exact ⟨rfl, Hid.out ((a6.step (Hid.out hld9)).step b11)⟩
                      | exact ⟨rfl, Hid.out ((a6.step (Hid.out (hld9.alloc _))).step b11)⟩
              exact AllReadyH.nil
            refine AllReadyH.cons (o := { dst := some 77, op := Op.convert 42 9 (Operand.tmp 76), type := 9, pos := "law.go:201", after := #[{ on := 15, ground := Ground.data }, { on := 5, ground := Ground.guard }], guard := some (5, true) }) rfl (fun K hK => ?_) ?_
            · skip
              go_simp
              refine hK.out _ _ (hkeep _ hldZ) (fun hHeld => ?_)
              clear hK K
              try simp only [Act.put, List.setIfInBounds_toArray, List.set_cons_zero, List.set_cons_succ]
              refine wpAnyH_ready (rs := [14]) (by kernel_rfl) (by simp) ?_
              refine AllReadyH.cons (o := { dst := some 75, op := Op.call { callee := Callee.value (Operand.func 12), args := #[Operand.tmp 74], argTypes := #[9] }, type := 9, pos := "law.go:201", after := #[{ on := 13, ground := Ground.data }, { on := 5, ground := Ground.chain }, { on := 5, ground := Ground.guard }], guard := some (5, true) }) rfl (fun K hK => ?_) ?_
              · skip
                go_simp
                refine (Sum_calls ⟨u.toArray⟩ _ (HKw.out _ ((hkeep _ hldZ)).1) (by rw [mk_size]; exact Nat.le_trans hu (by decide))).mono ?_
                rintro e w9 ⟨rfl, b9⟩
                have hld9 := ((hkeep _ hldZ)).1.step b9
                have hc2 := HcvB.out w9 b9
                go_wp2_with fail
                refine hK.out _ _ (hkeep _ hld9) (fun hHeld => ?_)
                clear hK K
                try simp only [Act.put, List.setIfInBounds_toArray, List.set_cons_zero, List.set_cons_succ]
                refine wpAnyH_take (i := 17) (oi := { dst := some 78, op := Op.binOp BinOp.eql 9 (Operand.tmp 75) (Operand.tmp 77) 9, type := 4, pos := "law.go:201", after := #[{ on := 14, ground := Ground.data }, { on := 16, ground := Ground.data }, { on := 5, ground := Ground.guard }], guard := some (5, true) }) (v := ?_) rfl (by kernel_rfl) (by kernel_rfl) (by kernel_rfl) (fun _ _ _ h => h) (Or.inl ⟨by rfl, ?_⟩) (by assumption) ?_
                rotate_left
                · (intro w0 hS0; (try dsimp only at hS0); go_simp) <;> with_reducible rfl
                try simp only [Act.put, List.setIfInBounds_toArray, List.set_cons_zero, List.set_cons_succ]
                refine wpAnyH_take (i := 18) (oi := { dst := some 79, op := Op.pick (Operand.tmp 66) (Operand.tmp 78) (Operand.const (Value.bool false)), type := 4, pos := "law.go:201", after := #[{ on := 5, ground := Ground.data }, { on := 17, ground := Ground.data }], guard := none }) (v := ?_) rfl (by kernel_rfl) (by kernel_rfl) (by kernel_rfl) (fun _ _ _ h => h) (Or.inl ⟨by rfl, ?_⟩) (by assumption) ?_
                rotate_left
                · (intro w0 hS0; (try dsimp only at hS0); go_simp) <;> with_reducible rfl
                try simp only [Act.put, List.setIfInBounds_toArray, List.set_cons_zero, List.set_cons_succ]
                refine wpAnyH_take (i := 19) (oi := { dst := some 12, op := Op.assign (Operand.tmp 79), type := 4, pos := "law.go:201", after := #[{ on := 18, ground := Ground.data }, { on := 14, ground := Ground.chain }, { on := 0, ground := Ground.phase }, { on := 1, ground := Ground.phase }, { on := 2, ground := Ground.phase }, { on := 3, ground := Ground.phase }, { on := 4, ground := Ground.phase }, { on := 5, ground := Ground.phase }, { on := 6, ground := Ground.phase }, { on := 7, ground := Ground.phase }, { on := 8, ground := Ground.phase }, { on := 9, ground := Ground.phase }, { on := 10, ground := Ground.phase }, { on := 11, ground := Ground.phase }, { on := 12, ground := Ground.phase }, { on := 13, ground := Ground.phase }, { on := 14, ground := Ground.phase }, { on := 15, ground := Ground.phase }, { on := 16, ground := Ground.phase }, { on := 17, ground := Ground.phase }, { on := 18, ground := Ground.phase }], guard := none }) (v := ?_) rfl (by kernel_rfl) (by kernel_rfl) (by kernel_rfl) (fun _ _ _ h => h) (Or.inl ⟨by rfl, ?_⟩) (by assumption) ?_
                rotate_left
                · (intro w0 hS0; (try dsimp only at hS0); go_simp) <;> with_reducible rfl
                try simp only [Act.put, List.setIfInBounds_toArray, List.set_cons_zero, List.set_cons_succ]
                refine wpAnyH_done (by kernel_rfl) ?_ _
                refine NoPanic.normal ?_
                rcases Hdz.out with hC | hzero
                · go_wp2_with fail
                  refine (HColT.out _ ?hh hC).mono ?_
                  case hh => first | exact hld9 | exact hld9.alloc _
                  rintro e w11 ⟨rfl, b11⟩
                  go_wp2_with fail
                  go_ret
                  first
                    | exact ⟨rfl, Hid.out ((a6.step (Hid.out hld9)).step b11)⟩
                    | exact ⟨rfl, Hid.out ((a6.step (Hid.out (hld9.alloc _))).step b11)⟩
                · have hbe : (shaF u == zero32) = true := by rw [hzero]; exact beq_self_eq_true _
                  rw [hbe]
                  go_wp2_with fail
                  refine (HColA.out _ ?hh).mono ?_
                  case hh => first | exact hld9 | exact hld9.alloc _
                  rintro e w11 ⟨⟨z, rfl⟩, b11⟩
                  cases z
                  all_goals
                    go_wp2_with fail
                    go_ret
                    first
                      | exact ⟨rfl, Hid.out ((a6.step (Hid.out hld9)).step b11)⟩
                      | exact ⟨rfl, Hid.out ((a6.step (Hid.out (hld9.alloc _))).step b11)⟩
              exact AllReadyH.nil
            exact AllReadyH.nil
          exact AllReadyH.nil
        refine AllReadyH.cons (o := { dst := some 76, op := Op.makeSlice 42 (Operand.const (Value.int IntKind.i64 32)) (Operand.const (Value.int IntKind.i64 32)), type := 42, pos := "law.go:201", after := #[{ on := 5, ground := Ground.guard }], guard := some (5, true) }) rfl (fun K hK => ?_) ?_
        · skip
          go_simp
          refine hK.out _ _ (hkeep _ hldZ) (fun hHeld => ?_)
          clear hK K
          try simp only [Act.put, List.setIfInBounds_toArray, List.set_cons_zero, List.set_cons_succ]
          refine wpAnyH_ready (rs := [11, 16]) (by kernel_rfl) (by simp) ?_
          refine AllReadyH.cons (o := { dst := some 72, op := Op.call { callee := Callee.builtin Builtin.min, args := #[Operand.tmp 69, Operand.tmp 71], argTypes := #[3, 3] }, type := 3, pos := "law.go:201", after := #[{ on := 8, ground := Ground.data }, { on := 10, ground := Ground.data }, { on := 5, ground := Ground.guard }], guard := some (5, true) }) rfl (fun K hK => ?_) ?_
          · skip
            go_simp
            refine hK.out _ _ (hkeep _ hldZ) (fun hHeld => ?_)
            clear hK K
            try simp only [Act.put, List.setIfInBounds_toArray, List.set_cons_zero, List.set_cons_succ]
            refine wpAnyH_take (i := 12) (oi := { dst := some 73, op := Op.indexAddr 26 (Operand.tmp 67) (Operand.tmp 72), type := 0, pos := "law.go:201", after := #[{ on := 6, ground := Ground.data }, { on := 11, ground := Ground.data }, { on := 5, ground := Ground.guard }], guard := some (5, true) }) (v := ?_) rfl (by kernel_rfl) (by kernel_rfl) (by kernel_rfl) (fun _ _ _ h => h) (Or.inl ⟨by rfl, ?_⟩) (by assumption) ?_
            rotate_left
            · (intro w0 hS0; (try dsimp only at hS0); go_simp) <;> with_reducible rfl
            try simp only [Act.put, List.setIfInBounds_toArray, List.set_cons_zero, List.set_cons_succ]
            refine wpAnyH_take (i := 13) (oi := { dst := some 74, op := Op.load 9 (Operand.tmp 73), type := 9, pos := "law.go:201", after := #[{ on := 12, ground := Ground.data }, { on := 5, ground := Ground.guard }], guard := some (5, true) }) (v := ?_) rfl (by kernel_rfl) (by kernel_rfl) (by kernel_rfl) (fun _ _ _ h => h) (Or.inl ⟨by rfl, ?_⟩) (by assumption) ?_
            rotate_left
            · (intro w0 hS0; (try dsimp only at hS0); go_simp) <;> with_reducible rfl
            try simp only [Act.put, List.setIfInBounds_toArray, List.set_cons_zero, List.set_cons_succ]
            refine wpAnyH_ready (rs := [14, 16]) (by kernel_rfl) (by simp) ?_
            refine AllReadyH.cons (o := { dst := some 75, op := Op.call { callee := Callee.value (Operand.func 12), args := #[Operand.tmp 74], argTypes := #[9] }, type := 9, pos := "law.go:201", after := #[{ on := 13, ground := Ground.data }, { on := 5, ground := Ground.chain }, { on := 5, ground := Ground.guard }], guard := some (5, true) }) rfl (fun K hK => ?_) ?_
            · skip
              go_simp
              refine (Sum_calls ⟨u.toArray⟩ _ (HKw.out _ ((hkeep _ hldZ)).1) (by rw [mk_size]; exact Nat.le_trans hu (by decide))).mono ?_
              rintro e w9 ⟨rfl, b9⟩
              have hld9 := ((hkeep _ hldZ)).1.step b9
              have hc2 := HcvB.out w9 b9
              go_wp2_with fail
              refine hK.out _ _ (hkeep _ hld9) (fun hHeld => ?_)
              clear hK K
              try simp only [Act.put, List.setIfInBounds_toArray, List.set_cons_zero, List.set_cons_succ]
              refine wpAnyH_ready (rs := [16]) (by kernel_rfl) (by simp) ?_
              refine AllReadyH.cons (o := { dst := some 77, op := Op.convert 42 9 (Operand.tmp 76), type := 9, pos := "law.go:201", after := #[{ on := 15, ground := Ground.data }, { on := 5, ground := Ground.guard }], guard := some (5, true) }) rfl (fun K hK => ?_) ?_
              · skip
                go_simp
                refine hK.out _ _ (hkeep _ hld9) (fun hHeld => ?_)
                clear hK K
                try simp only [Act.put, List.setIfInBounds_toArray, List.set_cons_zero, List.set_cons_succ]
                refine wpAnyH_take (i := 17) (oi := { dst := some 78, op := Op.binOp BinOp.eql 9 (Operand.tmp 75) (Operand.tmp 77) 9, type := 4, pos := "law.go:201", after := #[{ on := 14, ground := Ground.data }, { on := 16, ground := Ground.data }, { on := 5, ground := Ground.guard }], guard := some (5, true) }) (v := ?_) rfl (by kernel_rfl) (by kernel_rfl) (by kernel_rfl) (fun _ _ _ h => h) (Or.inl ⟨by rfl, ?_⟩) (by assumption) ?_
                rotate_left
                · (intro w0 hS0; (try dsimp only at hS0); go_simp) <;> with_reducible rfl
                try simp only [Act.put, List.setIfInBounds_toArray, List.set_cons_zero, List.set_cons_succ]
                refine wpAnyH_take (i := 18) (oi := { dst := some 79, op := Op.pick (Operand.tmp 66) (Operand.tmp 78) (Operand.const (Value.bool false)), type := 4, pos := "law.go:201", after := #[{ on := 5, ground := Ground.data }, { on := 17, ground := Ground.data }], guard := none }) (v := ?_) rfl (by kernel_rfl) (by kernel_rfl) (by kernel_rfl) (fun _ _ _ h => h) (Or.inl ⟨by rfl, ?_⟩) (by assumption) ?_
                rotate_left
                · (intro w0 hS0; (try dsimp only at hS0); go_simp) <;> with_reducible rfl
                try simp only [Act.put, List.setIfInBounds_toArray, List.set_cons_zero, List.set_cons_succ]
                refine wpAnyH_take (i := 19) (oi := { dst := some 12, op := Op.assign (Operand.tmp 79), type := 4, pos := "law.go:201", after := #[{ on := 18, ground := Ground.data }, { on := 14, ground := Ground.chain }, { on := 0, ground := Ground.phase }, { on := 1, ground := Ground.phase }, { on := 2, ground := Ground.phase }, { on := 3, ground := Ground.phase }, { on := 4, ground := Ground.phase }, { on := 5, ground := Ground.phase }, { on := 6, ground := Ground.phase }, { on := 7, ground := Ground.phase }, { on := 8, ground := Ground.phase }, { on := 9, ground := Ground.phase }, { on := 10, ground := Ground.phase }, { on := 11, ground := Ground.phase }, { on := 12, ground := Ground.phase }, { on := 13, ground := Ground.phase }, { on := 14, ground := Ground.phase }, { on := 15, ground := Ground.phase }, { on := 16, ground := Ground.phase }, { on := 17, ground := Ground.phase }, { on := 18, ground := Ground.phase }], guard := none }) (v := ?_) rfl (by kernel_rfl) (by kernel_rfl) (by kernel_rfl) (fun _ _ _ h => h) (Or.inl ⟨by rfl, ?_⟩) (by assumption) ?_
                rotate_left
                · (intro w0 hS0; (try dsimp only at hS0); go_simp) <;> with_reducible rfl
                try simp only [Act.put, List.setIfInBounds_toArray, List.set_cons_zero, List.set_cons_succ]
                refine wpAnyH_done (by kernel_rfl) ?_ _
                refine NoPanic.normal ?_
                rcases Hdz.out with hC | hzero
                · go_wp2_with fail
                  refine (HColT.out _ ?hh hC).mono ?_
                  case hh => first | exact hld9 | exact hld9.alloc _
                  rintro e w11 ⟨rfl, b11⟩
                  go_wp2_with fail
                  go_ret
                  first
                    | exact ⟨rfl, Hid.out ((a6.step (Hid.out hld9)).step b11)⟩
                    | exact ⟨rfl, Hid.out ((a6.step (Hid.out (hld9.alloc _))).step b11)⟩
                · have hbe : (shaF u == zero32) = true := by rw [hzero]; exact beq_self_eq_true _
                  rw [hbe]
                  go_wp2_with fail
                  refine (HColA.out _ ?hh).mono ?_
                  case hh => first | exact hld9 | exact hld9.alloc _
                  rintro e w11 ⟨⟨z, rfl⟩, b11⟩
                  cases z
                  all_goals
                    go_wp2_with fail
                    go_ret
                    first
                      | exact ⟨rfl, Hid.out ((a6.step (Hid.out hld9)).step b11)⟩
                      | exact ⟨rfl, Hid.out ((a6.step (Hid.out (hld9.alloc _))).step b11)⟩
              exact AllReadyH.nil
            refine AllReadyH.cons (o := { dst := some 77, op := Op.convert 42 9 (Operand.tmp 76), type := 9, pos := "law.go:201", after := #[{ on := 15, ground := Ground.data }, { on := 5, ground := Ground.guard }], guard := some (5, true) }) rfl (fun K hK => ?_) ?_
            · skip
              go_simp
              refine hK.out _ _ (hkeep _ hldZ) (fun hHeld => ?_)
              clear hK K
              try simp only [Act.put, List.setIfInBounds_toArray, List.set_cons_zero, List.set_cons_succ]
              refine wpAnyH_ready (rs := [14]) (by kernel_rfl) (by simp) ?_
              refine AllReadyH.cons (o := { dst := some 75, op := Op.call { callee := Callee.value (Operand.func 12), args := #[Operand.tmp 74], argTypes := #[9] }, type := 9, pos := "law.go:201", after := #[{ on := 13, ground := Ground.data }, { on := 5, ground := Ground.chain }, { on := 5, ground := Ground.guard }], guard := some (5, true) }) rfl (fun K hK => ?_) ?_
              · skip
                go_simp
                refine (Sum_calls ⟨u.toArray⟩ _ (HKw.out _ ((hkeep _ hldZ)).1) (by rw [mk_size]; exact Nat.le_trans hu (by decide))).mono ?_
                rintro e w9 ⟨rfl, b9⟩
                have hld9 := ((hkeep _ hldZ)).1.step b9
                have hc2 := HcvB.out w9 b9
                go_wp2_with fail
                refine hK.out _ _ (hkeep _ hld9) (fun hHeld => ?_)
                clear hK K
                try simp only [Act.put, List.setIfInBounds_toArray, List.set_cons_zero, List.set_cons_succ]
                refine wpAnyH_take (i := 17) (oi := { dst := some 78, op := Op.binOp BinOp.eql 9 (Operand.tmp 75) (Operand.tmp 77) 9, type := 4, pos := "law.go:201", after := #[{ on := 14, ground := Ground.data }, { on := 16, ground := Ground.data }, { on := 5, ground := Ground.guard }], guard := some (5, true) }) (v := ?_) rfl (by kernel_rfl) (by kernel_rfl) (by kernel_rfl) (fun _ _ _ h => h) (Or.inl ⟨by rfl, ?_⟩) (by assumption) ?_
                rotate_left
                · (intro w0 hS0; (try dsimp only at hS0); go_simp) <;> with_reducible rfl
                try simp only [Act.put, List.setIfInBounds_toArray, List.set_cons_zero, List.set_cons_succ]
                refine wpAnyH_take (i := 18) (oi := { dst := some 79, op := Op.pick (Operand.tmp 66) (Operand.tmp 78) (Operand.const (Value.bool false)), type := 4, pos := "law.go:201", after := #[{ on := 5, ground := Ground.data }, { on := 17, ground := Ground.data }], guard := none }) (v := ?_) rfl (by kernel_rfl) (by kernel_rfl) (by kernel_rfl) (fun _ _ _ h => h) (Or.inl ⟨by rfl, ?_⟩) (by assumption) ?_
                rotate_left
                · (intro w0 hS0; (try dsimp only at hS0); go_simp) <;> with_reducible rfl
                try simp only [Act.put, List.setIfInBounds_toArray, List.set_cons_zero, List.set_cons_succ]
                refine wpAnyH_take (i := 19) (oi := { dst := some 12, op := Op.assign (Operand.tmp 79), type := 4, pos := "law.go:201", after := #[{ on := 18, ground := Ground.data }, { on := 14, ground := Ground.chain }, { on := 0, ground := Ground.phase }, { on := 1, ground := Ground.phase }, { on := 2, ground := Ground.phase }, { on := 3, ground := Ground.phase }, { on := 4, ground := Ground.phase }, { on := 5, ground := Ground.phase }, { on := 6, ground := Ground.phase }, { on := 7, ground := Ground.phase }, { on := 8, ground := Ground.phase }, { on := 9, ground := Ground.phase }, { on := 10, ground := Ground.phase }, { on := 11, ground := Ground.phase }, { on := 12, ground := Ground.phase }, { on := 13, ground := Ground.phase }, { on := 14, ground := Ground.phase }, { on := 15, ground := Ground.phase }, { on := 16, ground := Ground.phase }, { on := 17, ground := Ground.phase }, { on := 18, ground := Ground.phase }], guard := none }) (v := ?_) rfl (by kernel_rfl) (by kernel_rfl) (by kernel_rfl) (fun _ _ _ h => h) (Or.inl ⟨by rfl, ?_⟩) (by assumption) ?_
                rotate_left
                · (intro w0 hS0; (try dsimp only at hS0); go_simp) <;> with_reducible rfl
                try simp only [Act.put, List.setIfInBounds_toArray, List.set_cons_zero, List.set_cons_succ]
                refine wpAnyH_done (by kernel_rfl) ?_ _
                refine NoPanic.normal ?_
                rcases Hdz.out with hC | hzero
                · go_wp2_with fail
                  refine (HColT.out _ ?hh hC).mono ?_
                  case hh => first | exact hld9 | exact hld9.alloc _
                  rintro e w11 ⟨rfl, b11⟩
                  go_wp2_with fail
                  go_ret
                  first
                    | exact ⟨rfl, Hid.out ((a6.step (Hid.out hld9)).step b11)⟩
                    | exact ⟨rfl, Hid.out ((a6.step (Hid.out (hld9.alloc _))).step b11)⟩
                · have hbe : (shaF u == zero32) = true := by rw [hzero]; exact beq_self_eq_true _
                  rw [hbe]
                  go_wp2_with fail
                  refine (HColA.out _ ?hh).mono ?_
                  case hh => first | exact hld9 | exact hld9.alloc _
                  rintro e w11 ⟨⟨z, rfl⟩, b11⟩
                  cases z
                  all_goals
                    go_wp2_with fail
                    go_ret
                    first
                      | exact ⟨rfl, Hid.out ((a6.step (Hid.out hld9)).step b11)⟩
                      | exact ⟨rfl, Hid.out ((a6.step (Hid.out (hld9.alloc _))).step b11)⟩
              exact AllReadyH.nil
            exact AllReadyH.nil
          refine AllReadyH.cons (o := { dst := some 77, op := Op.convert 42 9 (Operand.tmp 76), type := 9, pos := "law.go:201", after := #[{ on := 15, ground := Ground.data }, { on := 5, ground := Ground.guard }], guard := some (5, true) }) rfl (fun K hK => ?_) ?_
          · skip
            go_simp
            refine hK.out _ _ (hkeep _ hldZ) (fun hHeld => ?_)
            clear hK K
            try simp only [Act.put, List.setIfInBounds_toArray, List.set_cons_zero, List.set_cons_succ]
            refine wpAnyH_ready (rs := [11]) (by kernel_rfl) (by simp) ?_
            refine AllReadyH.cons (o := { dst := some 72, op := Op.call { callee := Callee.builtin Builtin.min, args := #[Operand.tmp 69, Operand.tmp 71], argTypes := #[3, 3] }, type := 3, pos := "law.go:201", after := #[{ on := 8, ground := Ground.data }, { on := 10, ground := Ground.data }, { on := 5, ground := Ground.guard }], guard := some (5, true) }) rfl (fun K hK => ?_) ?_
            · skip
              go_simp
              refine hK.out _ _ (hkeep _ hldZ) (fun hHeld => ?_)
              clear hK K
              try simp only [Act.put, List.setIfInBounds_toArray, List.set_cons_zero, List.set_cons_succ]
              refine wpAnyH_take (i := 12) (oi := { dst := some 73, op := Op.indexAddr 26 (Operand.tmp 67) (Operand.tmp 72), type := 0, pos := "law.go:201", after := #[{ on := 6, ground := Ground.data }, { on := 11, ground := Ground.data }, { on := 5, ground := Ground.guard }], guard := some (5, true) }) (v := ?_) rfl (by kernel_rfl) (by kernel_rfl) (by kernel_rfl) (fun _ _ _ h => h) (Or.inl ⟨by rfl, ?_⟩) (by assumption) ?_
              rotate_left
              · (intro w0 hS0; (try dsimp only at hS0); go_simp) <;> with_reducible rfl
              try simp only [Act.put, List.setIfInBounds_toArray, List.set_cons_zero, List.set_cons_succ]
              refine wpAnyH_take (i := 13) (oi := { dst := some 74, op := Op.load 9 (Operand.tmp 73), type := 9, pos := "law.go:201", after := #[{ on := 12, ground := Ground.data }, { on := 5, ground := Ground.guard }], guard := some (5, true) }) (v := ?_) rfl (by kernel_rfl) (by kernel_rfl) (by kernel_rfl) (fun _ _ _ h => h) (Or.inl ⟨by rfl, ?_⟩) (by assumption) ?_
              rotate_left
              · (intro w0 hS0; (try dsimp only at hS0); go_simp) <;> with_reducible rfl
              try simp only [Act.put, List.setIfInBounds_toArray, List.set_cons_zero, List.set_cons_succ]
              refine wpAnyH_ready (rs := [14]) (by kernel_rfl) (by simp) ?_
              refine AllReadyH.cons (o := { dst := some 75, op := Op.call { callee := Callee.value (Operand.func 12), args := #[Operand.tmp 74], argTypes := #[9] }, type := 9, pos := "law.go:201", after := #[{ on := 13, ground := Ground.data }, { on := 5, ground := Ground.chain }, { on := 5, ground := Ground.guard }], guard := some (5, true) }) rfl (fun K hK => ?_) ?_
              · skip
                go_simp
                refine (Sum_calls ⟨u.toArray⟩ _ (HKw.out _ ((hkeep _ hldZ)).1) (by rw [mk_size]; exact Nat.le_trans hu (by decide))).mono ?_
                rintro e w9 ⟨rfl, b9⟩
                have hld9 := ((hkeep _ hldZ)).1.step b9
                have hc2 := HcvB.out w9 b9
                go_wp2_with fail
                refine hK.out _ _ (hkeep _ hld9) (fun hHeld => ?_)
                clear hK K
                try simp only [Act.put, List.setIfInBounds_toArray, List.set_cons_zero, List.set_cons_succ]
                refine wpAnyH_take (i := 17) (oi := { dst := some 78, op := Op.binOp BinOp.eql 9 (Operand.tmp 75) (Operand.tmp 77) 9, type := 4, pos := "law.go:201", after := #[{ on := 14, ground := Ground.data }, { on := 16, ground := Ground.data }, { on := 5, ground := Ground.guard }], guard := some (5, true) }) (v := ?_) rfl (by kernel_rfl) (by kernel_rfl) (by kernel_rfl) (fun _ _ _ h => h) (Or.inl ⟨by rfl, ?_⟩) (by assumption) ?_
                rotate_left
                · (intro w0 hS0; (try dsimp only at hS0); go_simp) <;> with_reducible rfl
                try simp only [Act.put, List.setIfInBounds_toArray, List.set_cons_zero, List.set_cons_succ]
                refine wpAnyH_take (i := 18) (oi := { dst := some 79, op := Op.pick (Operand.tmp 66) (Operand.tmp 78) (Operand.const (Value.bool false)), type := 4, pos := "law.go:201", after := #[{ on := 5, ground := Ground.data }, { on := 17, ground := Ground.data }], guard := none }) (v := ?_) rfl (by kernel_rfl) (by kernel_rfl) (by kernel_rfl) (fun _ _ _ h => h) (Or.inl ⟨by rfl, ?_⟩) (by assumption) ?_
                rotate_left
                · (intro w0 hS0; (try dsimp only at hS0); go_simp) <;> with_reducible rfl
                try simp only [Act.put, List.setIfInBounds_toArray, List.set_cons_zero, List.set_cons_succ]
                refine wpAnyH_take (i := 19) (oi := { dst := some 12, op := Op.assign (Operand.tmp 79), type := 4, pos := "law.go:201", after := #[{ on := 18, ground := Ground.data }, { on := 14, ground := Ground.chain }, { on := 0, ground := Ground.phase }, { on := 1, ground := Ground.phase }, { on := 2, ground := Ground.phase }, { on := 3, ground := Ground.phase }, { on := 4, ground := Ground.phase }, { on := 5, ground := Ground.phase }, { on := 6, ground := Ground.phase }, { on := 7, ground := Ground.phase }, { on := 8, ground := Ground.phase }, { on := 9, ground := Ground.phase }, { on := 10, ground := Ground.phase }, { on := 11, ground := Ground.phase }, { on := 12, ground := Ground.phase }, { on := 13, ground := Ground.phase }, { on := 14, ground := Ground.phase }, { on := 15, ground := Ground.phase }, { on := 16, ground := Ground.phase }, { on := 17, ground := Ground.phase }, { on := 18, ground := Ground.phase }], guard := none }) (v := ?_) rfl (by kernel_rfl) (by kernel_rfl) (by kernel_rfl) (fun _ _ _ h => h) (Or.inl ⟨by rfl, ?_⟩) (by assumption) ?_
                rotate_left
                · (intro w0 hS0; (try dsimp only at hS0); go_simp) <;> with_reducible rfl
                try simp only [Act.put, List.setIfInBounds_toArray, List.set_cons_zero, List.set_cons_succ]
                refine wpAnyH_done (by kernel_rfl) ?_ _
                refine NoPanic.normal ?_
                rcases Hdz.out with hC | hzero
                · go_wp2_with fail
                  refine (HColT.out _ ?hh hC).mono ?_
                  case hh => first | exact hld9 | exact hld9.alloc _
                  rintro e w11 ⟨rfl, b11⟩
                  go_wp2_with fail
                  go_ret
                  first
                    | exact ⟨rfl, Hid.out ((a6.step (Hid.out hld9)).step b11)⟩
                    | exact ⟨rfl, Hid.out ((a6.step (Hid.out (hld9.alloc _))).step b11)⟩
                · have hbe : (shaF u == zero32) = true := by rw [hzero]; exact beq_self_eq_true _
                  rw [hbe]
                  go_wp2_with fail
                  refine (HColA.out _ ?hh).mono ?_
                  case hh => first | exact hld9 | exact hld9.alloc _
                  rintro e w11 ⟨⟨z, rfl⟩, b11⟩
                  cases z
                  all_goals
                    go_wp2_with fail
                    go_ret
                    first
                      | exact ⟨rfl, Hid.out ((a6.step (Hid.out hld9)).step b11)⟩
                      | exact ⟨rfl, Hid.out ((a6.step (Hid.out (hld9.alloc _))).step b11)⟩
              exact AllReadyH.nil
            exact AllReadyH.nil
          exact AllReadyH.nil
        exact AllReadyH.nil
    · have hbe : (h == k) = false := beq_eq_false_iff_ne.2 hhk
      have hbn : (h != k) = true := by rw [bne, hbe]; rfl
      go_wp2_with fail
      go_ret
      exact ⟨rfl, Hid.out a6⟩
end Go.Proofs.YtinioifhbafngaaDoor
