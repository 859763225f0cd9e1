/- The contract of package amount's Apportion: the parts by largest remainders, in memory of its own; or nothing where the document refuses. -/
import Derived.Test.YtediphiebamffaaDeal
namespace Go.Proofs.Ytediphiebamffaa
open Go.RowKit Go.Sort

theorem allB_two (M x y : Int) : allB M [x, y] = (decide (0 ≤ x ∧ x ≤ M) && decide (0 ≤ y ∧ y ≤ M)) := by unfold allB; simp
theorem smV_some (l : List Int) (s : Nat) (h : sumF maxI l 0 = some s) : smV l = .tuple #[.int .i64 (s : Int), .bool true] := by unfold smV; rw [h]; rfl
theorem smV_bad (t : Int) (l : List Int) (h : ¬ apOk t l) : smV l = .tuple #[.int .i64 0, .bool false] ∨ smV l = .tuple #[.int .i64 0, .bool true] ∨ ∃ s : Nat, smV l = .tuple #[.int .i64 (s : Int), .bool true] ∧ 1 ≤ s ∧ allB 1000000000000000 [t, (s : Int)] = false := by
  cases hs : sumF maxI l 0 with
  | none => left; unfold smV; rw [hs]; rfl
  | some s =>
    right
    have h0 := smV_some l s hs
    rw [sumF_eq _ _ _ (by omega)] at hs
    by_cases h2 : (∀ x ∈ l, 0 ≤ x) ∧ 0 + sumW l ≤ maxI
    · rw [if_pos h2, Nat.zero_add] at hs
      obtain rfl := Option.some.inj hs
      by_cases h3 : 1 ≤ sumW l
      · right
        refine ⟨_, h0, h3, ?_⟩
        rw [allB_two, Bool.eq_false_iff]
        intro h4
        rw [Bool.and_eq_true, decide_eq_true_iff, decide_eq_true_iff] at h4
        exact h ⟨h4.1, h2.1, h3, by omega⟩
      · left
        rw [h0, show sumW l = 0 by omega]; rfl
    · rw [if_neg h2] at hs; cases hs
theorem smV_ok (t : Int) (l : List Int) (h : apOk t l) : smV l = .tuple #[.int .i64 ((sumW l : Nat) : Int), .bool true] ∧ allB 1000000000000000 [t, ((sumW l : Nat) : Int)] = true := by
  have h3 := h.2.2
  refine ⟨smV_some l _ ?_, ?_⟩
  · rw [sumF_eq _ _ _ (by omega), if_pos ⟨h.2.1, by unfold maxI; omega⟩, Nat.zero_add]
  · rw [allB_two, Bool.and_eq_true, decide_eq_true_iff, decide_eq_true_iff]
    exact ⟨h.1, by omega⟩

set_option maxRecDepth 100000 in
theorem ownAp_bad (t : Int) (l : List Int) (A : Option Addr) (cap : Nat) (w : World) (hs : Ints w A l) (hl : l.length ≤ 1000000) (h : ¬ apOk t l) :
    Calls Try.prog 20 #[.int .i64 t, .slice A l.length cap] w fun e w' => e = .returned apNo ∧ Below w.heap.size w w' := by
  have HS := Lib.hid (own_sum l A cap w hs hl)
  rcases smV_bad t l h with hv | hv | ⟨s, hv, h1, hb⟩
  · have HV := Lib.hid hv
    clear hv h hs
    go_enter Try.func20, Try.ntmps20
    go_wp2_with fail
    refine HS.out.mono ?_
    rintro e w' ⟨rfl, b1⟩
    rw [HV.out]
    go_wp2_with fail
    refine bodyPost_ret (results_tmp2 rfl _ _ _) rfl ?_
    exact ⟨rfl, b1⟩
  · have HV := Lib.hid hv
    clear hv h hs
    go_enter Try.func20, Try.ntmps20
    go_wp2_with fail
    refine HS.out.mono ?_
    rintro e w' ⟨rfl, b1⟩
    rw [HV.out]
    go_wp2_with fail
    refine bodyPost_ret (results_tmp2 rfl _ _ _) rfl ?_
    exact ⟨rfl, b1⟩
  · have HV := Lib.hid hv
    have HB := Lib.hid hb
    have k1 : (1 : Int) ≤ (s : Int) := by omega
    clear hv h hs hb
    go_enter Try.func20, Try.ntmps20
    go_wp2_with fail
    refine HS.out.mono ?_
    rintro e w1 ⟨rfl, b1⟩
    rw [HV.out]
    have a1 : Hld w w1 := Lib.hid b1
    clear b1
    go_wp2_with fail
    refine (upTo_calls 1000000000000000 _).mono ?_
    rintro e w2 ⟨rfl, hw2⟩
    have a2 : Hld w w2 := hw2 ▸ a1.alloc _
    have c1 : w2.cell? ⟨w1.heap.size, 0, none⟩ = some (.int .i64 1000000000000000) := hw2 ▸ up_cell w1 _
    have C1 := Lib.hid c1
    have Z1 := Lib.hid (lt_of_cell c1)
    clear hw2 c1
    go_wp2_with fail
    refine (all_calls 1000000000000000 w1.heap.size [t, (s : Int)] _ 2 _ ?_ (ints_two w2 _ _ _).ints (by simp)).mono ?_
    · rw [World.cell?_alloc_lt _ _ _ Z1.out]; exact C1.out
    rintro e w3 ⟨rfl, rfl⟩
    rw [HB.out]
    have a3 := a2.alloc (.cells #[.int .i64 t, .int .i64 (s : Int)] 3)
    generalize w2.alloc (.cells #[.int .i64 t, .int .i64 (s : Int)] 3) = w3 at *
    clear C1 Z1 a2
    go_wp2_with fail
    refine bodyPost_ret (results_tmp2 rfl _ _ _) rfl ?_
    exact ⟨rfl, Hid.out a3⟩

/-- What the first loop has laid: k quotas and remainders. -/
structure Filled (w0 w : World) (T : Nat) (l : List Int) (gp gr k : Nat) : Prop where
  atP : OwnAt w gp (listN l.length fun i => if i < k then (qN T l i : Int) else 0)
  atR : RemAt w gr l.length (fun i => if i < k then (i, rN T l i) else (0, 0))
  bel : Below w0.heap.size w0 w
theorem own_zero {w : World} {base g n : Nat} (h : w.ownsRow base 3 1 (.slice (some ⟨g, 0, none⟩) n n) n (madeCells (Value.int .i64 0).cells (n * 1)).toList) (f : Nat → Int) (hf : ∀ i, f i = 0) : OwnAt w g (listN n f) := fun i hi => by
  rw [listN_length] at hi
  refine ⟨?_, h.frozenAt i⟩
  rw [h.cellAt i (by omega), listN_get _ _ _ hi, hf, show (Value.int .i64 0).cells = #[Value.int .i64 0] from rfl, toList_madeCells_one, List.getElem?_replicate, if_pos (by omega)]
theorem rem_zero {w : World} {base g n : Nat} (h : w.ownsRow base 56 2 (.slice (some ⟨g, 0, none⟩) n n) n (madeCells (Value.agg #[Value.int .i64 0, Value.int .u64 0]).cells (n * 2)).toList) (f : Nat → Nat × Nat) (hf : ∀ i, f i = (0, 0)) : RemAt w g n f := fun i hi => by
  have key : ∀ j, j < n * 2 → (madeCells (Value.agg #[Value.int .i64 0, Value.int .u64 0]).cells (n * 2)).toList[j]? = some (if j % 2 = 0 then Value.int .i64 0 else Value.int .u64 0) := by
    intro j hj
    unfold madeCells
    rw [Array.getElem?_toList, Array.getElem?_map, Array.getElem?_range, if_pos hj]
    show some ((#[Value.int .i64 0, Value.int .u64 0] : Array Value)[j % 2]!) = _
    have h2 : j % 2 = 0 ∨ j % 2 = 1 := by omega
    rcases h2 with h2 | h2
    · rw [h2, if_pos rfl]; rfl
    · rw [h2, if_neg (by omega)]; rfl
  refine ⟨⟨?_, ?_⟩, fun j => h.frozenAt j⟩
  · rw [h.cellAt _ (by omega), key _ (by omega), if_pos (by omega), hf]; rfl
  · rw [h.cellAt _ (by omega), key _ (by omega), if_neg (by omega), hf]; rfl
theorem filled_step {w0 w w2 : World} {T : Nat} {l : List Int} {gp gr k : Nat} (h : Filled w0 w T l gp gr k) (b : Below w.heap.size w w2) (hne : gp ≠ gr) (hbp : w0.heap.size ≤ gp) (hbr : w0.heap.size ≤ gr) (hk : k < l.length) :
    Filled w0 (((w2.setCell ⟨gp, k, none⟩ (.int .i64 ((qN T l k : Nat) : Int))).setCell ⟨gr, k * 2, none⟩ (.int .i64 (k : Int))).setCell ⟨gr, k * 2 + 1, none⟩ (.int .u64 ((rN T l k : Nat) : Int))) T l gp gr (k + 1) := by
  refine ⟨?_, ?_, (((h.bel.trans (b.mono h.bel.size)).setCell hbp _).setCell hbr _).setCell hbr _⟩
  · have e : (listN l.length fun i => if i < k + 1 then (qN T l i : Int) else 0) = (listN l.length fun i => if i < k then (qN T l i : Int) else 0).set k ((qN T l k : Nat) : Int) := by
      rw [listN_set _ _ _ _ hk]
      refine listN_congr _ _ _ fun i _ => ?_
      by_cases e : i = k
      · subst e; rw [if_pos rfl, if_pos (by omega)]
      · rw [if_neg e]
        by_cases h2 : i < k
        · rw [if_pos h2, if_pos (by omega)]
        · rw [if_neg h2, if_neg (by omega)]
    rw [e]
    exact (((h.atP.below b).set k _).other (fun e => hne e.symm) _ _).other (fun e => hne e.symm) _ _
  · have e : (fun i => if i < k + 1 then (i, rN T l i) else ((0, 0) : Nat × Nat)) = fun i => if i = k then (k, rN T l k) else if i < k then (i, rN T l i) else (0, 0) := by
      funext i
      by_cases e : i = k
      · subst e; rw [if_pos rfl, if_pos (by omega)]
      · rw [if_neg e]
        by_cases h2 : i < k
        · rw [if_pos h2, if_pos (by omega)]
        · rw [if_neg h2, if_neg (by omega)]
    rw [e]
    exact ((h.atR.below b).other hne _ _).set k (k, rN T l k)

/-- What the second loop holds: the first j places of the sorted list have been dealt one each. -/
structure Dealing (w0 w : World) (T : Nat) (l : List Int) (gp gr : Nat) (E : List Nat) (j : Nat) : Prop where
  atP : OwnAt w gp (listN l.length fun i => ((qN T l i + if i ∈ E.take j then 1 else 0 : Nat) : Int))
  atR : ∀ i, i < E.length → w.cell? ⟨gr, i * 2, none⟩ = some (.int .i64 ((E.getD i 0 : Nat) : Int)) ∧ w.cell? ⟨gr, i * 2 + 1, none⟩ = some (.int .u64 ((rN T l (E.getD i 0) : Nat) : Int))
  bel : Below w0.heap.size w0 w
theorem dealing_start {w0 wr w7 : World} {T : Nat} {l : List Int} {gp gr : Nat} {E : List Nat} {d' : Array (Nat × Nat)} (h : Filled w0 wr T l gp gr l.length) (hne : gp ≠ gr) (hbr : w0.heap.size ≤ gr) (hg : wr.grownBy w7 (some gr))
    (hh : HoldsK encR 2 w7 gr 0 d') (hsz : d'.size = E.length) (hE : ∀ k (h : k < E.length), d'[k]! = (E[k], rN T l E[k])) : Dealing w0 w7 T l gp gr E 0 := by
  refine ⟨?_, ?_, h.bel.grown hg h.bel.size (fun k e => by injection e with e; omega)⟩
  · have e : (listN l.length fun i => ((qN T l i + if i ∈ E.take 0 then 1 else 0 : Nat) : Int)) = listN l.length fun i => if i < l.length then (qN T l i : Int) else 0 := listN_congr _ _ _ fun i hi => by simp [hi]
    rw [e]
    exact h.atP.kept hg (fun h2 => hne (by injection h2))
  · intro i hi
    have h1 := rem_of_holds hh i (by omega)
    rw [hE i hi] at h1
    rw [List.getD_eq_getElem?_getD, List.getElem?_eq_getElem hi]
    exact h1
theorem dealing_val (T : Nat) (l : List Int) (E : List Nat) (j e : Nat) (hnd : E.Nodup) (hj : j < E.length) (he : E.getD j 0 = e) (hel : e < l.length) : (listN l.length fun i => ((qN T l i + if i ∈ E.take j then 1 else 0 : Nat) : Int)).getD e 0 = ((qN T l e : Nat) : Int) := by
  rw [List.getD_eq_getElem?_getD, List.getElem?_eq_getElem hj] at he
  have he2 : E[j] = e := he
  subst he2
  rw [listN_get _ _ _ hel, if_neg (deal_new E hnd j hj), Nat.add_zero]
theorem dealing_step {w0 w : World} {T : Nat} {l : List Int} {gp gr : Nat} {E : List Nat} {j e : Nat} (h : Dealing w0 w T l gp gr E j) (hne : gp ≠ gr) (hbp : w0.heap.size ≤ gp) (hj : j < E.length) (he : E.getD j 0 = e) (hel : e < l.length) (o : Obj) :
    Dealing w0 ((w.alloc o).setCell ⟨gp, e, none⟩ (.int .i64 (((qN T l e : Nat) : Int) + 1))) T l gp gr E (j + 1) := by
  refine ⟨?_, ?_, (h.bel.alloc h.bel.size _).setCell hbp _⟩
  · have he2 : E[j] = e := by
      rw [List.getD_eq_getElem?_getD, List.getElem?_eq_getElem hj] at he; exact he
    have e2 : (listN l.length fun i => ((qN T l i + if i ∈ E.take (j + 1) then 1 else 0 : Nat) : Int)) = (listN l.length fun i => ((qN T l i + if i ∈ E.take j then 1 else 0 : Nat) : Int)).set e (((qN T l e : Nat) : Int) + 1) := by
      rw [listN_set _ _ _ _ hel]
      refine listN_congr _ _ _ fun i _ => ?_
      have := deal_next E (qN T l) j hj i
      rw [he2] at this
      rw [this]
      by_cases e3 : i = e
      · subst e3; rw [if_pos rfl, if_pos rfl]; rfl
      · rw [if_neg e3, if_neg e3]
    rw [e2]
    exact (h.atP.alloc o).set e _
  · intro i hi
    have h1 := h.atR i hi
    have hlt := lt_of_cell h1.1
    rw [World.cell?_setCell_other _ _ _ _ (by intro h2; exact hne (by injection h2)), World.cell?_setCell_other _ _ _ _ (by intro h2; exact hne (by injection h2)), ((Below.refl w.heap.size w).alloc (Nat.le_refl _) o).cell (p := ⟨gr, i * 2, none⟩) hlt, ((Below.refl w.heap.size w).alloc (Nat.le_refl _) o).cell (p := ⟨gr, i * 2 + 1, none⟩) hlt]
    exact h1

set_option maxRecDepth 100000 in
set_option maxHeartbeats 4000000 in
theorem ownAp_ok (t : Int) (l : List Int) (A : Option Addr) (cap : Nat) (w : World) (hs : Ints w A l) (hl : l.length ≤ 100000) (h : apOk t l) :
    Calls Try.prog 20 #[.int .i64 t, .slice A l.length cap] w (ApAns w t l) := by
  obtain ⟨i0, hi, hz0, hz1, hz2⟩ := info_parts (show (Try.prog.info? 3).map (fun i => (i.zero, i.size, i.bytes)) = some (some (.int .i64 0), 1, 8) from by kernel_rfl)
  obtain ⟨j0, hj, hy0, hy1, hy2⟩ := info_parts (show (Try.prog.info? 56).map (fun i => (i.zero, i.size, i.bytes)) = some (some (.agg #[.int .i64 0, .int .u64 0]), 2, 16) from by kernel_rfl)
  have HS := Lib.hid (own_sum l A cap w hs (by omega))
  have HV := Lib.hid (smV_ok t l h)
  have H := Lib.hid h
  have hn1 := apOk_len h
  obtain ⟨b, o, rfl, hI⟩ : ∃ b o, A = some ⟨b, o, none⟩ ∧ IntsAt w b o l := by
    rcases hs with h0 | ⟨b, o, h1, h2⟩
    · rw [h0] at hn1; simp at hn1
    · exact ⟨b, o, h1, h2⟩
  have HI := Lib.hid hI
  have t0 : 0 ≤ t := h.1.1
  have t1 : t ≤ 1000000000000000 := h.1.2
  have W0 := h.2.2.1
  have W1 := h.2.2.2
  obtain ⟨T, rfl⟩ := Int.eq_ofNat_of_zero_le t0
  have HD : Hid (∀ k W, k < l.length → Calls Try.prog 32 #[.int .i64 (T : Int), .int .i64 ((wN l k : Nat) : Int), .int .i64 ((sumW l : Nat) : Int)] W fun e w' => e = .returned (.tuple #[.int .i64 ((qN T l k : Nat) : Int), .int .u64 ((rN T l k : Nat) : Int)]) ∧ Below W.heap.size W w') := Lib.hid (fun k W hk => by
    have h2 := divide_own T (wN l k) (sumW l) W (by omega) (by omega) W0 (wN_le l k hk)
    have e1 : qN T l k = T * wN l k / sumW l := by unfold qN quo; rw [Int.toNat_natCast]
    have e2 : rN T l k = T * wN l k % sumW l := by unfold rN rem; rw [Int.toNat_natCast]
    rw [e1, e2]
    exact h2)
  have HC : Hid (∀ k, k < l.length → l.getD k 0 = ((wN l k : Nat) : Int)) := Lib.hid (fun k hk => wN_cast l k hk h.2.1)
  have HB : Hid (∀ k, k ≤ l.length → sumTo (qN T l) k ≤ T) := Lib.hid (fun k hk => by have := qSum_le T l k hk W0; rwa [Int.toNat_natCast] at this)
  have HL : Hid (lN T l = T - sumTo (qN T l) l.length ∧ lN T l ≤ l.length) := Lib.hid ⟨by unfold lN left3; rw [Int.toNat_natCast]; unfold qN; rw [Int.toNat_natCast]; rfl, left3_le _ _ _ W0⟩
  clear hI hs h t0 t1
  have kT : (T : Int) ≤ 1000000000000000 := by have := H.out.1.2; omega
  obtain ⟨W, hW⟩ : ∃ W, sumW l = W := ⟨_, rfl⟩
  obtain ⟨n, hn⟩ : ∃ n, l.length = n := ⟨_, rfl⟩
  have Hn := Lib.hid hn
  rw [hW] at HV HD W0 W1
  rw [hn] at HS HD HC HB HL hl hn1 ⊢
  have kW : (1 : Int) ≤ (W : Int) := by omega
  clear hn hW
  go_enter Try.func20, Try.ntmps20
  go_wp2_with fail
  refine HS.out.mono ?_
  rintro e w1 ⟨rfl, b1⟩
  rw [HV.out.1]
  have a1 : Hld w w1 := Lib.hid b1
  clear b1
  go_wp2_with fail
  refine (upTo_calls 1000000000000000 _).mono ?_
  rintro e w2 ⟨rfl, hw2⟩
  have a2 : Hld w w2 := hw2 ▸ a1.alloc _
  have c1 : w2.cell? ⟨w1.heap.size, 0, none⟩ = some (.int .i64 1000000000000000) := hw2 ▸ up_cell w1 _
  have C1 := Lib.hid c1
  have Z1 := Lib.hid (lt_of_cell c1)
  clear hw2 c1
  go_wp2_with fail
  refine (all_calls 1000000000000000 w1.heap.size [(T : Int), (W : Int)] _ 2 _ ?_ (ints_two w2 _ _ _).ints (by simp)).mono ?_
  · rw [World.cell?_alloc_lt _ _ _ Z1.out]; exact C1.out
  rintro e w3 ⟨rfl, rfl⟩
  rw [HV.out.2]
  have a3 := a2.alloc (.cells #[.int .i64 (T : Int), .int .i64 (W : Int)] 3)
  generalize w2.alloc (.cells #[.int .i64 (T : Int), .int .i64 (W : Int)] 3) = w3 at *
  clear C1 Z1 a2 a1
  have hsz := a3.size
  go_wp2_with (first
    | (refine wpList_make_full _ rfl _ _ 29 rfl w.heap.size 3 i0 (.int .i64 0) 1 Try.underlying29 hi hz0 hz1 .i64 .i64 _ _ n rfl rfl rfl rfl (by rw [hz2]; omega) (by unfold maxLen; omega) hsz ?_; intro w4 hown4 hg4)
    | (refine wpList_make_full _ rfl _ _ 52 rfl w.heap.size 56 j0 (.agg #[.int .i64 0, .int .u64 0]) 2 Try.underlying52 hj hy0 hy1 .i64 .i64 _ _ n rfl rfl rfl rfl (by rw [hy2]; omega) (by unfold maxLen; omega) (Nat.le_trans hsz hg4.size) ?_; intro w5 hown5 hg5))
  have HN : Hid (w3.heap.size ≠ w4.heap.size) := Lib.hid (by
    have h1 := (World.ownsRow.lt hown4 w3.heap.size rfl).2
    omega)
  have HBP : Hid (w.heap.size ≤ w3.heap.size ∧ w.heap.size ≤ w4.heap.size) := Lib.hid ⟨hsz, Nat.le_trans hsz hg4.size⟩
  have HF0 : Hid (Filled w w5 T l w3.heap.size w4.heap.size 0) := Lib.hid (by
    have hp4 : OwnAt w4 w3.heap.size (listN n fun i => if i < 0 then (qN T l i : Int) else 0) := own_zero hown4 _ (fun i => by rw [if_neg (by omega)])
    have hr5 : RemAt w5 w4.heap.size n (fun i => if i < 0 then (i, rN T l i) else (0, 0)) := rem_zero hown5 _ (fun i => by rw [if_neg (by omega)])
    have b5 : Below w.heap.size w w5 := ((Hid.out a3).grown hg4 hsz (fun k e => by cases e)).grown hg5 (Nat.le_trans hsz hg4.size) (fun k e => by cases e)
    rw [← Hn.out] at hp4 hr5
    exact ⟨hp4.kept hg5 (by simp), hr5, b5⟩)
  clear hown4 hown5 hg4 hg5 a3 hsz HS HV
  go_loopw [10, 45] (fun lv iv wr => ∃ k L : Nat, k ≤ n ∧ iv = .int .i64 k ∧ lv = .int .i64 (L : Int) ∧ L ≤ T ∧ Hid (L + sumTo (qN T l) k = T) ∧ Hid (Filled w wr T l w3.heap.size w4.heap.size k)) (fun _ iv _ => n - (intOf iv).toNat)
  case atStart => exact ⟨0, T, by omega, rfl, rfl, by omega, Lib.hid rfl, HF0⟩
  case round =>
    clear HF0
    obtain ⟨k, L, hk, rfl, rfl, hLT, HS, HFl⟩ := hrel
    by_cases hlt : k < n
    · have c1 : wr.cell? ⟨b, o + k, none⟩ = some (.int .i64 ((wN l k : Nat) : Int)) := by
        have := (HI.out.keep (HFl.out.bel)) k (by rw [Hn.out]; exact hlt)
        rwa [HC.out k hlt] at this
      have HDk := Lib.hid (fun W => HD.out k W hlt)
      have hbk := HB.out (k + 1) (by omega)
      have hse : sumTo (qN T l) (k + 1) = sumTo (qN T l) k + qN T l k := rfl
      have hqL : qN T l k ≤ L := by have := HS.out; omega
      have HS2 : Hid (L - qN T l k + sumTo (qN T l) (k + 1) = T) := Lib.hid (by have := HS.out; omega)
      have HF2 := Lib.hid (fun (w2 : World) (bb : Below wr.heap.size wr w2) => filled_step HFl.out bb HN.out HBP.out.1 HBP.out.2 (by rw [Hn.out]; exact hlt))
      have HP2 := Lib.hid (fun (w2 : World) (bb : Below wr.heap.size wr w2) => (HFl.out.atP.below bb) k (by rw [listN_length, Hn.out]; exact hlt))
      have HR2 := Lib.hid (fun (w2 : World) (bb : Below wr.heap.size wr w2) => (HFl.out.atR.below bb) k (by rw [Hn.out]; exact hlt))
      clear hbk hse HS HFl
      generalize wN l k = x at *
      generalize qN T l k = q at *
      generalize rN T l k = r at *
      have k0 : (0 : Int) ≤ (k : Int) := by omega
      have k1 : (k : Int) < (n : Int) := by omega
      have k2 : (q : Int) ≤ (L : Int) := by omega
      go_wp2_with fail
      refine (HDk.out _).mono ?_
      rintro e w6 ⟨rfl, b6⟩
      have p6 := HP2.out w6 b6
      have r6 := HR2.out w6 b6
      have F6 := Lib.hid (HF2.out w6 b6)
      obtain ⟨y, hy⟩ : ∃ y, (listN l.length fun i => if i < k then (qN T l i : Int) else 0).getD k 0 = y := ⟨_, rfl⟩
      rw [hy] at p6
      rw [if_neg (Nat.lt_irrefl k)] at r6
      have p1 := p6.1
      have p2 := p6.2
      have r1 : (w6.setCell ⟨w3.heap.size, k, none⟩ (.int .i64 (q : Int))).cell? ⟨w4.heap.size, k * 2, none⟩ = some (.int .i64 ((0 : Nat) : Int)) := by
        rw [World.cell?_setCell_other _ _ _ _ (by intro h2; exact HN.out (by injection h2))]; exact r6.1.1
      have r2 : ((w6.setCell ⟨w3.heap.size, k, none⟩ (.int .i64 (q : Int))).setCell ⟨w4.heap.size, k * 2, none⟩ (.int .i64 (k : Int))).cell? ⟨w4.heap.size, k * 2 + 1, none⟩ = some (.int .u64 ((0 : Nat) : Int)) := by
        rw [World.cell?_setCell_other _ _ _ _ (by intro h2; injection h2 with h3 h4; omega), World.cell?_setCell_other _ _ _ _ (by intro h2; exact HN.out (by injection h2))]; exact r6.1.2
      have r3 := r6.2 (k * 2)
      have r4 := r6.2 (k * 2 + 1)
      clear p6 r6 hy HDk HP2 HR2 HF2
      go_wp2_with fail
      go_roundw
      case rel => exact ⟨k + 1, L - q, by omega, by go_num, by go_num, by omega, HS2, F6⟩
      case measure => simp [intOf]; omega
    · obtain rfl : k = n := by omega
      have HLn : Hid (L = lN T l) := Lib.hid (by have h1 := HL.out.1; have h2 := HS.out; omega)
      have hrem := HFl.out.atR
      rw [Hn.out] at hrem
      obtain ⟨d, hd⟩ : ∃ d : Array (Nat × Nat), d.toList = (List.range k).map fun i => (i, rN T l i) := ⟨((List.range k).map fun i => (i, rN T l i)).toArray, by simp⟩
      have hhold : HoldsK encR 2 wr w4.heap.size 0 d := by
        have h2 : RemAt wr w4.heap.size k fun i => (i, rN T l i) := fun i hi => by
          have := hrem i hi
          dsimp only at this
          rw [if_pos hi] at this
          exact this
        exact h2.holds d hd
      have hds : d.size = k := by
        have := congrArg List.length hd
        simpa using this
      have hsort := sort_calls w4.heap.size k d wr hhold (lt_of_cell (hrem 0 (by omega)).1.1) (by omega)
      rw [hds] at hsort
      have HSo := Lib.hid hsort
      have HD0 := Lib.hid hd
      have HDs := Lib.hid hds
      clear hsort hd hds hhold hrem HS HD HC
      go_wp2_with fail
      refine HSo.out.mono ?_
      rintro e w7 ⟨rfl, hso⟩
      have HS7 := Lib.hid hso
      clear hso HSo
      have k9 : (L : Int) ≤ (k : Int) := by have h1 := HL.out.2; have h2 := HLn.out; omega
      obtain ⟨d', hp7, hs7, hh7, hg7⟩ := HS7.out
      rw [← HDs.out] at hp7 hs7
      obtain ⟨E, hE1, hE2, hE3, hE4⟩ := deal_sorted k (rN T l) d d' HD0.out hp7 hs7
      have hEl : E.length = k := by rw [hE1.length_eq, List.length_range]
      have hnd : E.Nodup := hE1.nodup_iff.2 List.nodup_range
      have hdl := dealing_start (by rw [Hn.out]; exact HFl.out) HN.out HBP.out.2 hg7 hh7 (by rw [hE2, hEl]) hE3
      have HDl := Lib.hid hdl
      have HEm : Hid (∀ j, j < k → E.getD j 0 < k) := Lib.hid (fun j hj => by
        have h2 : E.getD j 0 ∈ E := by rw [List.getD_eq_getElem?_getD, List.getElem?_eq_getElem (by omega)]; exact List.getElem_mem _
        exact List.mem_range.1 (hE1.mem_iff.1 h2))
      have HEl := Lib.hid hEl
      have HEn := Lib.hid hnd
      have HFin : Hid (listN l.length (fun i => ((qN T l i + if i ∈ E.take L then 1 else 0 : Nat) : Int)) = apL T l) := Lib.hid (by
        have hdf := deal_first (rN T l) k E hE1 hE4 L (by omega)
        have := parts_of T l (fun i => decide (i ∈ E.take L)) (by rw [Hn.out]; exact hdf.1) (by rw [Hn.out, hdf.2]; exact HLn.out)
        rw [← this]
        refine listN_congr _ _ _ fun i _ => ?_
        simp only [decide_eq_true_eq])
      clear HS7 hp7 hs7 hh7 hg7 hE1 hE2 hE3 hE4 hEl hnd hdl HFl HD0 HDs HLn
      go_wp2_with fail
      go_loopw [77] (fun iv wz => ∃ j : Nat, j ≤ L ∧ iv = .int .i64 (j : Int) ∧ Hid (Dealing w wz T l w3.heap.size w4.heap.size E j)) (fun iv _ => L - (intOf iv).toNat)
      case atStart => exact ⟨0, by omega, rfl, HDl⟩
      case round =>
        clear HDl
        obtain ⟨j, hj, rfl, HDl⟩ := hrel
        by_cases hlt2 : j < L
        · have hjE : j < E.length := by rw [HEl.out]; omega
          have hr2 := HDl.out.atR j hjE
          obtain ⟨e, he⟩ : ∃ e, E.getD j 0 = e := ⟨_, rfl⟩
          have hek : e < k := by rw [← he]; exact HEm.out j (by omega)
          have hp2 := HDl.out.atP e (by rw [listN_length, Hn.out]; exact hek)
          rw [dealing_val T l E j e HEn.out hjE he (by rw [Hn.out]; exact hek)] at hp2
          rw [he] at hr2
          have HSt := Lib.hid (dealing_step HDl.out HN.out HBP.out.1 hjE he (by rw [Hn.out]; exact hek))
          have hqe : qN T l e ≤ T := by have := qN_le T l e (by rw [Hn.out]; exact hek) (by have := H.out.2.2.1; omega); rwa [Int.toNat_natCast] at this
          have c1 := hr2.1
          have c2 := hr2.2
          have hA := (HDl.out.atP.alloc (.cells #[.int .i64 (e : Int), .int .u64 ((rN T l e : Nat) : Int)] 56)) e (by rw [listN_length, Hn.out]; exact hek)
          rw [dealing_val T l E j e HEn.out hjE he (by rw [Hn.out]; exact hek)] at hA
          have c3 := hA.1
          have c4 := hA.2
          clear hr2 hp2 he hjE HDl hA
          generalize qN T l e = q at *
          generalize rN T l e = r at *
          have k0 : (0 : Int) ≤ (j : Int) := by omega
          have k1 : (j : Int) < (L : Int) := by omega
          have k2 : (0 : Int) ≤ (e : Int) := by omega
          have k3 : (e : Int) < (k : Int) := by omega
          go_wp2_with fail
          go_roundw
          case rel => exact ⟨j + 1, by omega, by go_num, Lib.hid (HSt.out _)⟩
          case measure => simp [intOf]; omega
        · obtain rfl : j = L := by omega
          have HP := Lib.hid (show IntsAt wr w3.heap.size 0 (apL T l) from by
            have h2 := HDl.out.atP.ints
            rw [HFin.out] at h2
            exact h2)
          have HBl := Lib.hid HDl.out.bel
          clear HDl HFin
          go_wp2_with fail
          refine bodyPost_ret (results_tmp2 rfl _ _ _) rfl ?_
          exact ⟨⟨w3.heap.size, k, by rw [Hn.out]; rfl, by rw [Hn.out]; exact Nat.le_refl _, HP.out⟩, HBl.out⟩
end Go.Proofs.Ytediphiebamffaa
