/- The contract of the reference's Hashed: a row of its own with the strings whose digests make the root. | The contract of the reference's Collided: it says true where two different strings of the two lists have the same digest. Conditions: at most 100,000 entries, none longer than 400,000 bytes. -/
import Derived.Test.YtmhphmolbjjopaaDoorHsp
import Derived.Test.YtmhphmolbjjopaaDoorMxp
namespace Go.Proofs.YtmhphmolbjjopaaDoor
open Go Go.RowKit
section
variable {P : Program} {ops : Array Oper} {C : World → Prop} {Q : Exit → Act → World → Prop}
/-- A drawn region taken in the order that exchanges of neighbours make. -/
theorem wp_region_mixL {id : Nat} {a : Act} {w : World} {l : List Oper} (ss : List Nat) (C D : World → Prop) (bs : List Bool) (ks : List Nat) (hm : P.follows .mixedOrders = true) (hB : (Region.noSelect l.toArray && (decide (bs.length = (ss.foldl (fun l n => swapAt n l) l).length) && (decide ((ss.foldl (fun l n => swapAt n l) l).length = l.length) && mixPB .any l.toArray bs ks (Array.replicate l.toArray.size false)))) = true)
    (hl : (ks.map fun k => l.toArray[k]?) = (ss.foldl (fun l n => swapAt n l) l).map some)
    (hC : C { w with drawn := w.drawn + 1 }) (hD : D { w with drawn := w.drawn + 1 }) (h : ∀ w', C w' → D w' → wpMix P l.toArray (NoPanic Q) C bs (ss.foldl (fun l n => swapAt n l) l) a w') : (Code.region id l.toArray true).wp P Q a w :=
  wp_region_mixP C (ss.foldl (fun l n => swapAt n l) l) bs ks hm hB hl hC (h _ hC hD)
theorem mix_stand_callR {o : Oper} {l : List Oper} {bs : List Bool} {a : Act} {w : World} (R : Value → World → Prop) (f : FuncId) (args : Array Value) (hw : Region.wanted o (yielded ops a.tmps) = true) (ho : (execOp a.eval o).run P w = .ok (.enter f args) w)
    (hc : Calls P f args w fun e w2 => ∃ v, e = .returned v ∧ R v w2 ∧ C w2) (k : ∀ v w', R v w' → C w' → wpMix P ops (NoPanic Q) C bs l (a.put o.dst v) w') : wpMix P ops (NoPanic Q) C (false :: bs) (o :: l) a w := by
  refine ⟨hw, ?_⟩
  simp only [Oper.wp, ho, Oper.upon]
  refine Calls.mono hc fun e w2 he => ?_
  obtain ⟨v, rfl, h1, h2⟩ := he
  exact ⟨h2, k v w2 h1 h2⟩
theorem mix_append {o : Oper} {l : List Oper} {bs : List Bool} {a : Act} {w : World} (s x : Operand) (t : TypeId) (ho : o.op = .call { callee := .builtin .append, args := #[s, x], argTypes := #[t, t] }) (v u : Value) (hs : a.eval s = v) (hx : a.eval x = u) {v' : Value} {w' : World}
    (hr : (Builtin.append_ #[t, t] o.type #[v, u]).run P w = .ok v' w') (hw : Region.wanted o (yielded ops a.tmps) = true) (hc : C w') (k : wpMix P ops Q C bs l (a.put o.dst v') w') : wpMix P ops Q C (false :: bs) (o :: l) a w :=
  ⟨hw, wp_append_run s x t ho v u hs hx hr ⟨hc, k⟩⟩
end
theorem RowS.weak6 {w : World} {b c : Nat} {v : Value} {l : List Bs} (h : RowS w c v l) (hb : b ≤ c) : RowS w b v l :=
  ⟨h.1, h.2.elim .inl (fun ⟨g, cap, cur, h1, h2, h3⟩ => .inr ⟨g, cap, cur, h1, Nat.le_trans hb h2, h3⟩)⟩
set_option maxRecDepth 100000 in
set_option maxHeartbeats 8000000 in
theorem Hashed_main (n : Nat) : ∀ (l : List Bs) (b o cap : Nat) (w : World), l.length ≤ n → l.length ≤ 100000 → l.length ≤ cap → StrsAt w b o l → (∀ x ∈ l, x.length ≤ 400000) → 1 ≤ l.length →
    Calls Tryd.prog 42 #[.slice (some ⟨b, o, none⟩) l.length cap] w fun e W' => (∃ v, e = .returned v ∧ RowS W' w.heap.size v (hashF l)) ∧ Below w.heap.size w W' := by
  induction n with
  | zero => intro l b o cap w h1 _ _ _ _ h2; omega
  | succ n ih =>
    intro l b o cap w h1 h2 h3 hs hx h4
    by_cases h5 : 2 ≤ l.length
    · have hr := left_range _ h5
      have hash := hash_two l h5
      obtain ⟨k, hk⟩ : ∃ k, left l.length = k := ⟨_, rfl⟩
      unfold topF at hash
      rw [hk] at hr hash
      have HE := Lib.hid hash
      have Hk := Lib.hid hk
      have hl1 : (l.take k).length = k := by rw [List.length_take]; omega
      have hl2 : (l.drop k).length = l.length - k := List.length_drop
      have h1' : ∀ w' : World, Hld w w' → Calls Tryd.prog 42 #[.slice (some ⟨b, o, none⟩) k cap] w' fun e W' => (∃ v, e = .returned v ∧ RowS W' w'.heap.size v (hashF (l.take k))) ∧ Below w'.heap.size w' W' := fun w' h => by
        have := ih (l.take k) b o cap w' (by omega) (by omega) (by omega) ((h.strsAt hs).take k) (fun x hm => hx x (List.mem_of_mem_take hm)) (by omega)
        rw [hl1] at this
        exact this
      have h2' : ∀ w' : World, Hld w w' → Calls Tryd.prog 42 #[.slice (some ⟨b, o + k, none⟩) (l.length - k) (cap - k)] w' fun e W' => (∃ v, e = .returned v ∧ RowS W' w'.heap.size v (hashF (l.drop k))) ∧ Below w'.heap.size w' W' := fun w' h => by
        have := ih (l.drop k) b (o + k) (cap - k) w' (by omega) (by omega) (by omega) ((h.strsAt hs).drop k) (fun x hm => hx x (List.mem_of_mem_drop hm)) (by omega)
        rw [hl2] at this
        exact this
      have hr1' : ∀ w' : World, Hld w w' → Calls Tryd.prog 61 #[.slice (some ⟨b, o, none⟩) k cap] w' fun e W' => e = .returned (.string ⟨(rootF shaF (l.take k)).toArray⟩) ∧ Below w'.heap.size w' W' := fun w' h => by
        have := refRoot_calls (l.take k) (some ⟨b, o, none⟩) cap w' (by omega) (by omega) ((h.strsAt hs).take k).strs (fun x hm => hx x (List.mem_of_mem_take hm))
        rw [hl1] at this
        exact this
      have hr2' : ∀ w' : World, Hld w w' → Calls Tryd.prog 61 #[.slice (some ⟨b, o + k, none⟩) (l.length - k) (cap - k)] w' fun e W' => e = .returned (.string ⟨(rootF shaF (l.drop k)).toArray⟩) ∧ Below w'.heap.size w' W' := fun w' h => by
        have := refRoot_calls (l.drop k) (some ⟨b, o + k, none⟩) (cap - k) w' (by omega) (by omega) ((h.strsAt hs).drop k).strs (fun x hm => hx x (List.mem_of_mem_drop hm))
        rw [hl2] at this
        exact this
      have hp1 : (hashF (l.take k)).length ≤ 200001 := Nat.le_trans (hash_len _) (by rw [hl1]; omega)
      have hp2 : (hashF (l.drop k)).length ≤ 200001 := Nat.le_trans (hash_len _) (by rw [hl2]; omega)
      have HR1 := Lib.hid (root_length (l.take k))
      have HR2 := Lib.hid (root_length (l.drop k))
      have H1 := Lib.hid h1'
      have H2 := Lib.hid h2'
      have HC1 := Lib.hid hr1'
      have HC2 := Lib.hid hr2'
      clear h1' h2' hr1' hr2' hl1 hl2 ih hs hx hk hash
      generalize hashF (l.take k) = p1 at *
      generalize hashF (l.drop k) = p2 at *
      generalize rootF shaF (l.take k) = r1 at *
      generalize rootF shaF (l.drop k) = r2 at *
      generalize hashF l = all at *
      generalize l.length = m at *
      obtain ⟨hr1, hr2, hr3⟩ := hr
      have q1 : ((m : Int) == 0) = false := by rw [beq_eq_false_iff_ne]; omega
      have q2 : ((m : Int) == 1) = false := by rw [beq_eq_false_iff_ne]; omega
      obtain ⟨R1, hR1⟩ : ∃ R, (⟨r1.toArray⟩ : ByteArray) = R := ⟨_, rfl⟩
      obtain ⟨R2, hR2⟩ : ∃ R, (⟨r2.toArray⟩ : ByteArray) = R := ⟨_, rfl⟩
      have hb := two_bytes 1 ⟨r1.toArray⟩ ⟨r2.toArray⟩
      rw [hR1] at HC1 hb
      rw [hR2] at HC2 hb
      have hs1 : R1.size ≤ 32 := by rw [← hR1]; exact Nat.le_of_eq HR1.out
      have hs2 : R2.size ≤ 32 := by rw [← hR2]; exact Nat.le_of_eq HR2.out
      have HB : Hid (((⟨#[1]⟩ : ByteArray) ++ R1 ++ R2).data.toList = 1 :: (r1 ++ r2)) := Lib.hid (by rw [hb, ← hR1, ← hR2])
      clear hb hR1 hR2 HR1 HR2
      go_enter Tryd.func42, Tryd.ntmps42
      go_wp2_with fail
      refine (Left_calls m _ h5 (by omega)).mono ?_
      rw [Hk.out]
      rintro e w' ⟨rfl, rfl⟩
      go_wp2_with fail
      have hc0 : ¬ cap = k := by omega
      have hk1 : (k : Int) ≤ (m : Int) := by omega
      have hk2 : (k : Int) ≤ (cap : Int) := by omega
      have hk3 : (m : Int) ≤ (cap : Int) := by omega
      try simp only [List.append_eq, List.cons_append, List.nil_append]
      refine wp_region_mixL [3, 4, 5] (fun w' => Below w.heap.size w w') (fun _ => True) [true, true, true, true, true, true, false, false, false, true] [0, 1, 2, 4, 5, 6, 3, 7, 8, 9] (by kernel_rfl) (by kernel_rfl) (by kernel_rfl) (Below.drew (Below.refl _ _)) trivial ?_
      intro w0 hC0 _
      simp only [List.foldl, swapAt]
      refine mix_val (.slice (some ⟨b, o, none⟩) m cap) (by rfl) (fun _ _ => by first | rfl | go_simp) ?_
      simp only [Act.put, List.setIfInBounds_toArray, List.set_cons_zero, List.set_cons_succ]
      refine mix_val (.int .i64 (k : Int)) (by rfl) (fun _ _ => by first | rfl | go_simp) ?_
      simp only [Act.put, List.setIfInBounds_toArray, List.set_cons_zero, List.set_cons_succ]
      refine mix_val (.slice (some ⟨b, o, none⟩) k cap) (by rfl) (fun _ _ => by first | rfl | go_simp) ?_
      simp only [Act.put, List.setIfInBounds_toArray, List.set_cons_zero, List.set_cons_succ]
      refine mix_val (.slice (some ⟨b, o, none⟩) m cap) (by rfl) (fun _ _ => by first | rfl | go_simp) ?_
      simp only [Act.put, List.setIfInBounds_toArray, List.set_cons_zero, List.set_cons_succ]
      refine mix_val (.int .i64 (k : Int)) (by rfl) (fun _ _ => by first | rfl | go_simp) ?_
      simp only [Act.put, List.setIfInBounds_toArray, List.set_cons_zero, List.set_cons_succ]
      refine mix_val (.slice (some ⟨b, o + k, none⟩) (m - k) (cap - k)) (by rfl) (fun _ _ => by first | rfl | go_simp) ?_
      simp only [Act.put, List.setIfInBounds_toArray, List.set_cons_zero, List.set_cons_succ]
      refine mix_stand_callR (fun v w' => RowS w' w.heap.size v p1) 42 #[(.slice (some ⟨b, o, none⟩) k cap)] (by rfl) (by go_simp) ((H1.out _ (Lib.hid hC0)).mono (fun e w2 ⟨⟨v, he, hr⟩, hb⟩ => ⟨v, he, RowS.weak6 hr hC0.size, hC0.trans (hb.mono hC0.size)⟩)) ?_
      clear hC0
      intro v4 w4 hown4 hC0
      simp only [Act.put, List.setIfInBounds_toArray, List.set_cons_zero, List.set_cons_succ]
      refine mix_stand_callR (fun v w' => RowS w' w4.heap.size v p2 ∧ Below w4.heap.size w4 w') 42 #[(.slice (some ⟨b, o + k, none⟩) (m - k) (cap - k))] (by rfl) (by go_simp) ((H2.out _ (Lib.hid hC0)).mono (fun e w2 ⟨⟨v, he, hr⟩, hb⟩ => ⟨v, he, ⟨hr, hb⟩, hC0.trans (hb.mono hC0.size)⟩)) ?_
      clear hC0
      rintro v5 w5 ⟨hown5, b5⟩ hC0
      simp only [Act.put, List.setIfInBounds_toArray, List.set_cons_zero, List.set_cons_succ]
      obtain ⟨A5, c5, rfl, hc5, hs5, hl5⟩ := hown5.lies
      have hown4b := RowS.below hown4 b5
      obtain ⟨v6, w6, hr6, hv6, hg6⟩ := append_rows w.heap.size w5 hown4b (Hid.out hs5) hl5 hC0.size (by omega) 44
      refine mix_append _ _ _ (by rfl) _ _ (by rfl) (by rfl) hr6 (by rfl) (hC0.grown hg6 hC0.size (fun q e => hown4b.lt q e)) ?_
      simp only [Act.put, List.setIfInBounds_toArray, List.set_cons_zero, List.set_cons_succ]
      have hC6 : Below w.heap.size w w6 := hC0.grown hg6 hC0.size (fun q e => hown4b.lt q e)
      clear hC0 hs5 hl5 hown5 hown4 hown4b hg6 hc5 hr6 b5
      refine mix_val v6 (by rfl) (fun _ _ => by first | rfl | go_simp) ?_
      simp only [Act.put, List.setIfInBounds_toArray, List.set_cons_zero, List.set_cons_succ]
      refine mix_done (P := Tryd.prog) (ops := #[]) (C := fun _ => True) ?_
      go_wp2_with fail
      try simp only [List.append_eq, List.cons_append, List.nil_append]
      refine wp_region_mixL [5, 6, 7, 4, 5, 6] (fun w' => Below w.heap.size w w') (fun w' => Below w6.heap.size w6 w') [true, true, true, true, true, true, true, false, true, false, true, false, false, true] [0, 1, 2, 3, 6, 7, 8, 4, 5, 9, 10, 11, 12, 13] (by kernel_rfl) (by kernel_rfl) (by kernel_rfl) (Below.drew hC6) (Below.drew (Below.refl _ _)) ?_
      intro w0 hC0 hD0
      simp only [List.foldl, swapAt]
      refine mix_val v6 (by rfl) (fun _ _ => by first | rfl | go_simp) ?_
      simp only [Act.put, List.setIfInBounds_toArray, List.set_cons_zero, List.set_cons_succ]
      refine mix_val (.slice (some ⟨b, o, none⟩) m cap) (by rfl) (fun _ _ => by first | rfl | go_simp) ?_
      simp only [Act.put, List.setIfInBounds_toArray, List.set_cons_zero, List.set_cons_succ]
      refine mix_val (.int .i64 (k : Int)) (by rfl) (fun _ _ => by first | rfl | go_simp) ?_
      simp only [Act.put, List.setIfInBounds_toArray, List.set_cons_zero, List.set_cons_succ]
      refine mix_val (.slice (some ⟨b, o, none⟩) k cap) (by rfl) (fun _ _ => by first | rfl | go_simp) ?_
      simp only [Act.put, List.setIfInBounds_toArray, List.set_cons_zero, List.set_cons_succ]
      refine mix_val (.slice (some ⟨b, o, none⟩) m cap) (by rfl) (fun _ _ => by first | rfl | go_simp) ?_
      simp only [Act.put, List.setIfInBounds_toArray, List.set_cons_zero, List.set_cons_succ]
      refine mix_val (.int .i64 (k : Int)) (by rfl) (fun _ _ => by first | rfl | go_simp) ?_
      simp only [Act.put, List.setIfInBounds_toArray, List.set_cons_zero, List.set_cons_succ]
      refine mix_val (.slice (some ⟨b, o + k, none⟩) (m - k) (cap - k)) (by rfl) (fun _ _ => by first | rfl | go_simp) ?_
      simp only [Act.put, List.setIfInBounds_toArray, List.set_cons_zero, List.set_cons_succ]
      refine mix_stand_callR (fun v w' => v = .string R1 ∧ Below w6.heap.size w6 w') 61 #[(.slice (some ⟨b, o, none⟩) k cap)] (by rfl) (by go_simp) ((HC1.out _ (Lib.hid hC0)).mono (fun e w2 ⟨he, hb⟩ => ⟨_, he, ⟨rfl, hD0.trans (hb.mono hD0.size)⟩, hC0.trans (hb.mono hC0.size)⟩)) ?_
      clear hC0 hD0
      rintro _ w7 ⟨rfl, hD0⟩ hC0
      simp only [Act.put, List.setIfInBounds_toArray, List.set_cons_zero, List.set_cons_succ]
      refine mix_val (.string ((⟨#[1]⟩ : ByteArray) ++ R1)) (by rfl) (fun _ _ => by go_simp; omega) ?_
      simp only [Act.put, List.setIfInBounds_toArray, List.set_cons_zero, List.set_cons_succ]
      refine mix_stand_callR (fun v w' => v = .string R2 ∧ Below w6.heap.size w6 w') 61 #[(.slice (some ⟨b, o + k, none⟩) (m - k) (cap - k))] (by rfl) (by go_simp) ((HC2.out _ (Lib.hid hC0)).mono (fun e w2 ⟨he, hb⟩ => ⟨_, he, ⟨rfl, hD0.trans (hb.mono hD0.size)⟩, hC0.trans (hb.mono hC0.size)⟩)) ?_
      clear hC0 hD0
      rintro _ w8 ⟨rfl, hD0⟩ hC0
      simp only [Act.put, List.setIfInBounds_toArray, List.set_cons_zero, List.set_cons_succ]
      refine mix_val (.string ((⟨#[1]⟩ : ByteArray) ++ R1 ++ R2)) (by rfl) (fun _ _ => by go_simp; omega) ?_
      simp only [Act.put, List.setIfInBounds_toArray, List.set_cons_zero, List.set_cons_succ]
      refine mix_stand (w8.alloc (.cells #[.string ((⟨#[1]⟩ : ByteArray) ++ R1 ++ R2)] 9)) (.slice (some ⟨w8.heap.size, 0, none⟩) 1 1) (by rfl) (by go_simp) (hC0.alloc hC0.size _) ?_
      simp only [Act.put, List.setIfInBounds_toArray, List.set_cons_zero, List.set_cons_succ]
      have hv8 := RowS.alloc (RowS.below hv6 hD0) (.cells #[.string ((⟨#[1]⟩ : ByteArray) ++ R1 ++ R2)] 9)
      obtain ⟨v9, w9, hr9, hv9, hg9⟩ := append_rows w.heap.size _ hv8 (Strs.oneB w8 ((⟨#[1]⟩ : ByteArray) ++ R1 ++ R2)) (.inr ⟨_, rfl⟩) (c := 1) (hC0.alloc hC0.size _).size (by rw [List.length_append, List.length_singleton]; omega) 44
      rw [HB.out] at hv9
      have hC9 : Below w.heap.size w w9 := (hC0.alloc hC0.size _).grown hg9 (hC0.alloc hC0.size _).size (fun q e => hv8.lt q e)
      refine mix_append _ _ _ (by rfl) _ _ (by rfl) (by rfl) hr9 (by rfl) hC9 ?_
      simp only [Act.put, List.setIfInBounds_toArray, List.set_cons_zero, List.set_cons_succ]
      refine mix_val v9 (by rfl) (fun _ _ => by first | rfl | go_simp) ?_
      simp only [Act.put, List.setIfInBounds_toArray, List.set_cons_zero, List.set_cons_succ]
      refine mix_done (P := Tryd.prog) (ops := #[]) (C := fun _ => True) ?_
      go_wp2_with fail
      go_ret
      exact ⟨⟨_, rfl, by rw [HE.out]; exact hv9⟩, hC9⟩
    · obtain ⟨x, rfl⟩ : ∃ x, l = [x] := by
        match l, h4, h5 with
        | [x], _, _ => exact ⟨x, rfl⟩
        | _ :: _ :: _, _, h5 => exact absurd (by simp) h5
      have hc : w.cell? ⟨b, o, none⟩ = some (.string ⟨x.toArray⟩) := hs 0 (show 0 < 1 by decide)
      have hxl := hx x (by simp)
      have HB := Lib.hid (one_bytes 0 ⟨x.toArray⟩)
      clear ih hs hx h1 h2 h4 h5
      show Calls _ _ #[.slice (some ⟨b, o, none⟩) 1 cap] _ _
      go_enter Tryd.func42, Tryd.ntmps42
      go_wp2_with fail
      go_ret
      have hrow := RowS.oneB w w.heap.size (Nat.le_refl _) ((⟨#[0]⟩ : ByteArray) ++ ⟨x.toArray⟩)
      rw [HB.out] at hrow
      exact ⟨⟨_, rfl, by rw [hash_one]; exact hrow⟩, (Below.refl _ w).alloc (Nat.le_refl _) _⟩
theorem Hashed_nil (A : Option Addr) (cap : Nat) (w : World) :
    Calls Tryd.prog 42 #[.slice A 0 cap] w fun e W' => (∃ v, e = .returned v ∧ RowS W' w.heap.size v (hashF [])) ∧ Below w.heap.size w W' := by
  go_enter Tryd.func42, Tryd.ntmps42
  go_wp2_with fail
  go_ret
  exact ⟨⟨_, rfl, RowS.oneB w w.heap.size (Nat.le_refl _) ⟨#[]⟩⟩, (Below.refl _ w).alloc (Nat.le_refl _) _⟩
theorem Hashed_calls (l : List Bs) (A : Option Addr) (cap : Nat) (w : World) (h2 : l.length ≤ 100000) (h3 : l.length ≤ cap) (hs : Strs w A l) (hx : ∀ x ∈ l, x.length ≤ 400000) :
    Calls Tryd.prog 42 #[.slice A l.length cap] w fun e W' => (∃ v, e = .returned v ∧ RowS W' w.heap.size v (hashF l)) ∧ Below w.heap.size w W' := by
  rcases hs with rfl | ⟨b, o, rfl, h⟩
  · exact Hashed_nil A cap w
  · by_cases h0 : l = []
    · subst h0; exact Hashed_nil _ cap w
    · exact Hashed_main l.length l b o cap w (Nat.le_refl _) h2 h3 h hx (List.length_pos_iff.2 h0)
/-- No string among the first j of a list collides with x. -/
def CoP (x : Bs) (b : List Bs) (j : Nat) : Prop := ∀ i, i < j → ¬ (x ≠ b.getD i [] ∧ shaF x = shaF (b.getD i []))
theorem CoP.succ {x : Bs} {b : List Bs} {j : Nat} (h : CoP x b j) (h2 : ¬ (x ≠ b.getD j [] ∧ shaF x = shaF (b.getD j []))) : CoP x b (j + 1) := fun i hi => by
  rcases Nat.lt_or_ge i j with h3 | h3
  · exact h i h3
  · obtain rfl : i = j := by omega
    exact h2
theorem all_succ {P : Nat → Prop} {k : Nat} (hp : ∀ j, j < k → P j) (h2 : P k) : ∀ j, j < k + 1 → P j := fun j hj => by
  rcases Nat.lt_or_ge j k with h3 | h3
  · exact hp j h3
  · obtain rfl : j = k := by omega
    exact h2
theorem coP_none {a b : List Bs} (h : ∀ i, i < a.length → CoP (a.getD i []) b b.length) : ¬ ∃ x ∈ a, ∃ y ∈ b, x ≠ y ∧ shaF x = shaF y := by
  rintro ⟨x, hx, y, hy, h2⟩
  obtain ⟨i, hi, rfl⟩ := List.mem_iff_getElem.1 hx
  obtain ⟨j, hj, rfl⟩ := List.mem_iff_getElem.1 hy
  refine h i hi j hj ?_
  rw [List.getD_eq_getElem?_getD, List.getElem?_eq_getElem hi, List.getD_eq_getElem?_getD, List.getElem?_eq_getElem hj]
  exact h2
set_option maxRecDepth 100000 in
set_option maxHeartbeats 4000000 in
theorem Collided_calls (a b : List Bs) (A B : Option Addr) (ca cb : Nat) (w : World) (ha : HS w A a) (hb : HS w B b) (hla : a.length ≤ 1000000) (hlb : b.length ≤ 1000000)
    (hxa : ∀ x ∈ a, x.length ≤ 1000000) (hxb : ∀ x ∈ b, x.length ≤ 1000000) :
    Calls Tryd.prog 41 #[.slice A a.length ca, .slice B b.length cb] w fun e W' => (∃ c, e = .returned (.bool c) ∧ ((∃ x ∈ a, ∃ y ∈ b, x ≠ y ∧ shaF x = shaF y) → c = true)) ∧ Below w.heap.size w W' := by
  have HN := Lib.hid (coP_none (a := a) (b := b))
  have HCa : Hid (∀ w' i, Hld w w' → i < a.length → ∃ g o, A = some ⟨g, o, none⟩ ∧ w'.cell? ⟨g, o + i, none⟩ = some (.string ⟨(a.getD i []).toArray⟩)) := Lib.hid fun w' i h hi => by
    rcases Hid.out (ha.keep (Hid.out h)) with hz | ⟨g, o, rfl, hst⟩
    · rw [hz] at hi; exact absurd hi (by simp)
    · exact ⟨g, o, rfl, hst i hi⟩
  have HCb : Hid (∀ w' i, Hld w w' → i < b.length → ∃ g o, B = some ⟨g, o, none⟩ ∧ w'.cell? ⟨g, o + i, none⟩ = some (.string ⟨(b.getD i []).toArray⟩)) := Lib.hid fun w' i h hi => by
    rcases Hid.out (hb.keep (Hid.out h)) with hz | ⟨g, o, rfl, hst⟩
    · rw [hz] at hi; exact absurd hi (by simp)
    · exact ⟨g, o, rfl, hst i hi⟩
  have Hma : Hid (∀ i, i < a.length → (a.getD i []).length ≤ 1000000) := Lib.hid fun i hi => hxa _ (by rw [List.getD_eq_getElem?_getD, List.getElem?_eq_getElem hi]; exact List.getElem_mem _)
  have Hmb : Hid (∀ i, i < b.length → (b.getD i []).length ≤ 1000000) := Lib.hid fun i hi => hxb _ (by rw [List.getD_eq_getElem?_getD, List.getElem?_eq_getElem hi]; exact List.getElem_mem _)
  clear hxa hxb ha hb
  obtain ⟨na, hna⟩ : ∃ n, a.length = n := ⟨_, rfl⟩
  obtain ⟨nb, hnb⟩ : ∃ n, b.length = n := ⟨_, rfl⟩
  rw [hna] at hla HCa Hma HN
  rw [hnb] at hlb HCb Hmb HN
  rw [hna, hnb]
  clear hna hnb
  go_enter Tryd.func41, Tryd.ntmps41
  go_wp2_with fail
  go_loopw [5] (fun iv wr => ∃ k : Nat, iv = .int .i64 k ∧ k ≤ na ∧ Hid (∀ i, i < k → CoP (a.getD i []) b nb) ∧ Hld w wr) (fun iv _ => na - (intOf iv).toNat)
  case atStart => exact ⟨0, rfl, by omega, Lib.hid (fun i hi => absurd hi (Nat.not_lt_zero i)), Hld.refl w⟩
  case round =>
    obtain ⟨k, rfl, hk, HI, aR⟩ := hrel
    have k0 : (0 : Int) ≤ (k : Int) := by omega
    by_cases hl1 : k < na
    case neg =>
      obtain rfl : k = na := by omega
      have k1 : (k : Int) ≤ (k : Int) := by omega
      go_wp2_with fail
      go_ret
      exact ⟨⟨_, rfl, fun h => absurd h (HN.out HI.out)⟩, Hid.out aR⟩
    have k1 : (k : Int) < (na : Int) := by omega
    obtain ⟨ga, oa, rfl, -⟩ := HCa.out wr k aR hl1
    have m1 := Hma.out k hl1
    obtain ⟨x, hx⟩ : ∃ x, a.getD k [] = x := ⟨_, rfl⟩
    have HCx : Hid (∀ w', Hld w w' → w'.cell? ⟨ga, oa + k, none⟩ = some (.string ⟨x.toArray⟩)) := Lib.hid fun w' h => by
      obtain ⟨g, o, e, hc⟩ := HCa.out w' k h hl1
      cases e
      rw [← hx]; exact hc
    have HI2 : Hid (CoP x b nb → ∀ i, i < k + 1 → CoP (a.getD i []) b nb) := Lib.hid fun h => all_succ HI.out (by rw [hx]; exact h)
    rw [hx] at m1
    clear hx HI HCa Hma
    go_upto_region 5 with (fail)
    go_loopw [6] (fun jv wr => ∃ j : Nat, jv = .int .i64 j ∧ j ≤ nb ∧ Hid (CoP x b j) ∧ Hld w wr) (fun jv _ => nb - (intOf jv).toNat)
    case atStart => exact ⟨0, rfl, by omega, Lib.hid (fun i hi => absurd hi (Nat.not_lt_zero i)), aR⟩
    case round =>
      clear aR
      obtain ⟨j, rfl, hj, HJ, aR⟩ := hrel
      have j0 : (0 : Int) ≤ (j : Int) := by omega
      by_cases hl2 : j < nb
      case neg =>
        obtain rfl : j = nb := by omega
        have j1 : (j : Int) ≤ (j : Int) := by omega
        go_wp2_with fail
        go_roundw
        case rel => exact ⟨k + 1, by go_num, by omega, Lib.hid (HI2.out HJ.out), aR⟩
        case measure => simp [intOf]; omega
      have j1 : (j : Int) < (nb : Int) := by omega
      obtain ⟨gb, ob, rfl, c2⟩ := HCb.out wr j aR hl2
      have c1 := HCx.out wr aR
      have m2 := Hmb.out j hl2
      have HJ2 : Hid (¬ (x ≠ b.getD j [] ∧ shaF x = shaF (b.getD j [])) → CoP x b (j + 1)) := Lib.hid fun h => HJ.out.succ h
      clear HJ
      generalize b.getD j [] = y at *
      have hkeep : ∀ W', Hld wr W' → Hld wr W' ∧ W'.cell? ⟨ga, oa + k, none⟩ = some (.string ⟨x.toArray⟩) ∧ W'.cell? ⟨gb, ob + j, none⟩ = some (.string ⟨y.toArray⟩) := fun W' h =>
        ⟨h, ((Hid.out h).cell (p := ⟨ga, oa + k, none⟩) (lt_of_cell c1)).trans c1, ((Hid.out h).cell (p := ⟨gb, ob + j, none⟩) (lt_of_cell c2)).trans c2⟩
      by_cases he : x = y
      · subst he
        have HJ3 := Lib.hid (HJ2.out (fun h => h.1 rfl))
        go_wp2_with fail
        go_quiet (fail)
        all_goals
          go_wp2_with fail
          go_roundw
          case rel => exact ⟨j + 1, by go_num, by omega, HJ3, Lib.hid (below_drewN (Hid.out aR) nq)⟩
          case measure => simp [intOf]; omega
      · have hbe : (x == y) = false := beq_eq_false_iff_ne.2 he
        go_wp2_with fail
        go_region_held3 (fun w' => Hld wr w' ∧ w'.cell? ⟨ga, oa + k, none⟩ = some (.string ⟨x.toArray⟩) ∧ w'.cell? ⟨gb, ob + j, none⟩ = some (.string ⟨y.toArray⟩))
          (first
            | exact hkeep _ (Hld.start _)
            | exact hkeep _ hld4
            | exact hkeep _ hld5)
          (first
            | (go_at_call 38; (with_reducible refine (refSum_calls ⟨x.toArray⟩ _ (by rw [mk_size]; exact m1)).mono ?_); rintro e w4 ⟨rfl, b4⟩; have hld4 := (Hld.start wr).step b4)
            | (go_at_call 38; (with_reducible refine (refSum_calls ⟨y.toArray⟩ _ (by rw [mk_size]; exact m2)).mono ?_); rintro e w5 ⟨rfl, b5⟩; have hld5 := hld4.step b5)
            | fail)
        have hend := aR.step (Hid.out hld5)
        go_wp2_with fail
        · go_ret
          exact ⟨⟨_, rfl, fun _ => rfl⟩, Hid.out hend⟩
        · rename_i hc
          have hsh : shaF x ≠ shaF y := by simpa using hc
          exact ⟨⟨j + 1, by go_num, by omega, Lib.hid (HJ2.out (fun h => hsh h.2)), hend⟩, by simp [intOf]; omega⟩
end Go.Proofs.YtmhphmolbjjopaaDoor
