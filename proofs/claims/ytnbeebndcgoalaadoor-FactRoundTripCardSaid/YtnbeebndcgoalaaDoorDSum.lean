/- The contract of package digest's sum: the SHA-256 of the parts, one after the other. Conditions: the slice of the parts was made for this call; the table of constants reads as the program lays it; at most 10^12 bytes. -/
import Derived.Test.YtnbeebndcgoalaaDoorDPad
namespace Go.Proofs.YtnbeebndcgoalaaDoor
open Go.RowKit Go.Shelf
attribute [local go_sem] Oper.semAt_some

theorem run_build8 (a b c d e f g h : Int) (w : World) : (Instr.build 95 #[(0, .int .u32 a), (1, .int .u32 b), (2, .int .u32 c), (3, .int .u32 d), (4, .int .u32 e), (5, .int .u32 f), (6, .int .u32 g), (7, .int .u32 h)]).run Tryd.prog w =
    .ok (.agg #[.int .u32 a, .int .u32 b, .int .u32 c, .int .u32 d, .int .u32 e, .int .u32 f, .int .u32 g, .int .u32 h]) w := run_build w _ _ _ (built8 a b c d e f g h)
theorem wpListIn_build8 {F : Fence} {n : Nat} {ops : Array Oper} {rest : List Oper} {o : Oper} {ac : Act} {w : World} {Q : Exit → Act → World → Prop} (hgd : o.guard = none) (a b c d e f g h : Int)
    (ho : o.op = .build 95 #[(0, .const (.int .u32 a)), (1, .const (.int .u32 b)), (2, .const (.int .u32 c)), (3, .const (.int .u32 d)), (4, .const (.int .u32 e)), (5, .const (.int .u32 f)), (6, .const (.int .u32 g)), (7, .const (.int .u32 h))])
    (hk : wpListIn F n Tryd.prog ops Q rest (ac.put o.dst (.agg #[.int .u32 a, .int .u32 b, .int .u32 c, .int .u32 d, .int .u32 e, .int .u32 f, .int .u32 g, .int .u32 h])) w) : wpListIn F n Tryd.prog ops Q (o :: rest) ac w := by
  refine wpListIn_plain hgd fun K hK => ⟨by simp [Oper.about, ho], ?_⟩
  rw [Oper.semAt_plain F _ _ (by rw [ho]; intro c hc; cases hc)]
  simp only [execOp, ho, List.map_toArray, List.map_cons, List.map_nil, Act.eval, Sem.run_bind, run_build8, Result.andThen_ok]
  exact hK _ _ hk

/-- The words after a list of blocks. -/
def hashL (l : List Bs) : Eight := l.foldl blockE initE
theorem hashL_snoc (l : List Bs) (x : Bs) : hashL (l ++ [x]) = blockE (hashL l) x := by unfold hashL; rw [List.foldl_append]; rfl
theorem hashL_blks (T : Bs) (j : Nat) : hashL (blks T j) = hashN T j := by
  induction j with
  | zero => rfl
  | succ j ih => rw [blks_succ, hashL_snoc, ih]; rfl
theorem hashL_ok (l : List Bs) : okE (hashL l) := by
  have h : ∀ (v : Eight) (l : List Bs), okE v → okE (l.foldl blockE v) := by
    intro v l
    induction l generalizing v with
    | nil => exact fun h => h
    | cons x l ih => exact fun _ => ih _ (addE_ok _ _)
  exact h _ _ ⟨by decide, by decide, by decide, by decide, by decide, by decide, by decide, by decide⟩

theorem blocks_in (n : Nat) (gb l c : Nat) (w : World) :
    CallsIn Fence.wide n Tryd.prog 70 #[.slice (some ⟨gb, 0, none⟩) l c] w fun e w' => e = .returned (.func (.func 82) #[] #[.pointer (some ⟨w.heap.size, 0, none⟩)]) ∧ w' = w.alloc (.cells #[.slice (some ⟨gb, 0, none⟩) l c] 94) := by
  refine callsIn_of_wp Tryd.func70 rfl trivial ?_ rfl
  simp only [Tryd.ntmps70, List.size_toArray, List.length_cons, List.length_nil, Nat.reduceAdd, Nat.reduceSub, Array.replicate_succ, Array.replicate_zero, List.push_toArray, List.append_toArray, List.nil_append, List.cons_append]
  gi_wp2
  go_ret
  exact ⟨rfl, rfl⟩

def sizesTo (l : List Bs) (i : Nat) : Nat := (l.take i).flatten.length
theorem sizesTo_succ (l : List Bs) (i : Nat) (h : i < l.length) : sizesTo l (i + 1) = sizesTo l i + (l.getD i []).length := by
  unfold sizesTo
  rw [List.take_succ_eq_append_getElem h, List.flatten_append, List.length_append, List.getD_eq_getElem?_getD, List.getElem?_eq_getElem h]
  simp

theorem cells8_one (l : Bs) : (cells8 l).toArray.all (·.oneCell') = true := by
  rw [Array.all_eq_true_iff_forall_mem]
  intro x hx
  obtain ⟨y, _, rfl⟩ := List.mem_map.1 (List.mem_toArray.1 hx)
  rfl
abbrev zeros32b : Array Value := #[.int .u8 0, .int .u8 0, .int .u8 0, .int .u8 0, .int .u8 0, .int .u8 0, .int .u8 0, .int .u8 0, .int .u8 0, .int .u8 0, .int .u8 0, .int .u8 0, .int .u8 0, .int .u8 0, .int .u8 0, .int .u8 0, .int .u8 0, .int .u8 0, .int .u8 0, .int .u8 0, .int .u8 0, .int .u8 0, .int .u8 0, .int .u8 0, .int .u8 0, .int .u8 0, .int .u8 0, .int .u8 0, .int .u8 0, .int .u8 0, .int .u8 0, .int .u8 0]
def fillB (v : Eight) (i : Nat) : Bs := (bytesE v).take i ++ List.replicate (32 - i) 0
theorem fillB_length (v : Eight) (i : Nat) : (fillB v i).length = 32 ∨ 32 < i := by
  by_cases h : i ≤ 32
  · left
    unfold fillB
    rw [List.length_append, List.length_take, List.length_replicate, show (bytesE v).length = 32 from rfl]
    omega
  · right; omega
theorem bytesE_get (v : Eight) (i : Nat) (h : i < 32) : (bytesE v).getD i 0 = UInt8.ofNat ((listE v).getD (i / 4) 0 >>> (24 - 8 * (i % 4))) := by
  match i, h with
  | 0, _ => rfl
  | 1, _ => rfl
  | 2, _ => rfl
  | 3, _ => rfl
  | 4, _ => rfl
  | 5, _ => rfl
  | 6, _ => rfl
  | 7, _ => rfl
  | 8, _ => rfl
  | 9, _ => rfl
  | 10, _ => rfl
  | 11, _ => rfl
  | 12, _ => rfl
  | 13, _ => rfl
  | 14, _ => rfl
  | 15, _ => rfl
  | 16, _ => rfl
  | 17, _ => rfl
  | 18, _ => rfl
  | 19, _ => rfl
  | 20, _ => rfl
  | 21, _ => rfl
  | 22, _ => rfl
  | 23, _ => rfl
  | 24, _ => rfl
  | 25, _ => rfl
  | 26, _ => rfl
  | 27, _ => rfl
  | 28, _ => rfl
  | 29, _ => rfl
  | 30, _ => rfl
  | 31, _ => rfl
  | n + 32, h => exact absurd h (by omega)
theorem fillB_set (v : Eight) (i : Nat) (h : i < 32) : (fillB v i).set i (UInt8.ofNat ((listE v).getD (i / 4) 0 >>> (24 - 8 * (i % 4)))) = fillB v (i + 1) := by
  have hb : (bytesE v).length = 32 := rfl
  have hl : ((bytesE v).take i).length = i := by rw [List.length_take, hb]; omega
  unfold fillB
  rw [← bytesE_get v i h, List.set_append_right _ _ (by omega), hl, Nat.sub_self, show 32 - i = (32 - (i + 1)) + 1 by omega, List.replicate_succ, List.set_cons_zero,
    List.take_succ_eq_append_getElem (by omega), List.append_assoc, List.getD_eq_getElem?_getD, List.getElem?_eq_getElem (by omega)]
  rfl
abbrev init8 : Array Value := #[.int .u32 1779033703, .int .u32 3144134277, .int .u32 1013904242, .int .u32 2773480762, .int .u32 1359893119, .int .u32 2600822924, .int .u32 528734635, .int .u32 1541459225]
theorem row_keep {w w' : World} {base : Nat} {e : TypeId} {size g n c k : Nat} {xs : List Value} (h : w.ownsRow base e size (.slice (some ⟨g, 0, none⟩) n c) k xs) (hb : w'.heap[g]? = w.heap[g]?) : w'.ownsRow base e size (.slice (some ⟨g, 0, none⟩) n c) k xs := by
  obtain ⟨h1, h2⟩ := h
  refine ⟨h1, ?_⟩
  rcases h2 with ⟨h, _⟩ | ⟨g', cap, cur, hv, hb2, hg, rest⟩
  · cases h
  · cases hv
    exact Or.inr ⟨_, _, _, rfl, hb2, hb.trans hg, rest⟩
theorem row_strs {w : World} {base : Nat} {g n c : Nat} {l : List Bs} (h : w.ownsRow base 9 1 (.slice (some ⟨g, 0, none⟩) n c) n (cellsS l)) : StrsAt w g 0 l := fun i hi => by
  have h1 : (cellsS l)[i]? = some (.string ⟨(l.getD i []).toArray⟩) := by
    unfold cellsS
    rw [List.getElem?_map, List.getElem?_eq_getElem hi, List.getD_eq_getElem?_getD, List.getElem?_eq_getElem hi]
    rfl
  have h2 := World.ownsRow.cells h rfl _ _ h1
  have e : Addr.add ⟨g, 0, none⟩ i = ⟨g, i, none⟩ := by unfold Addr.add; split <;> simp_all
  rw [e] at h2
  rw [Nat.zero_add]
  exact h2

theorem cells32E_size (v : Eight) : (cells32 (listE v)).toArray.size = 8 := by rw [List.size_toArray, cells32_length]; rfl
theorem sum_keep (pb : Nat) (w W W3 : World) (l l' : List Nat) (hA3 : W3.heap[w.heap.size]? = some (.cells (cells32 l).toArray 95 (0, 0))) (hk : Konst W) (hb : Below pb w W) (hz : w.heap.size < W.heap.size) (b3 : Below W.heap.size W W3)
    (hpb : 1 < pb) (hpbw : pb < w.heap.size) :
    W.grownBy (W3.setRow w.heap.size (cells32 l').toArray) (some w.heap.size) ∧ (Hid (Arr32 (W3.setRow w.heap.size (cells32 l').toArray) w.heap.size 95 l') ∧ Hid (Konst (W3.setRow w.heap.size (cells32 l').toArray))) ∧
      Below pb w (W3.setRow w.heap.size (cells32 l').toArray) ∧ w.heap.size < W3.heap.size := by
  have hgr : W.grownBy (W3.setRow w.heap.size (cells32 l').toArray) (some w.heap.size) :=
    ⟨b3.os, b3.tape, b3.output, by rw [size_setRow]; exact b3.size, fun k hk hne => (setRow_other _ _ _ _ (fun e => hne (by rw [e]))).trans (b3.block k hk)⟩
  have hne : some 1 ≠ some w.heap.size := fun e => by
    have h1 : 1 = w.heap.size := Option.some.inj e
    rw [← h1] at hpbw
    exact absurd (Nat.lt_trans hpb hpbw) (Nat.lt_irrefl _)
  refine ⟨hgr, ⟨Lib.hid (setRow_heap _ _ _ _ _ _ hA3), Lib.hid fun j hj => (World.cell?_of_block (hgr.block _ hk.lt hne)).trans (hk j hj)⟩, hb.grown hgr ?_ ?_, ?_⟩
  · exact Nat.le_of_lt (Nat.lt_trans hpbw hz)
  · intro k e
    cases e
    exact Nat.le_of_lt hpbw
  · exact Nat.lt_of_lt_of_le hz b3.size

set_option maxRecDepth 100000 in
set_option maxHeartbeats 4000000 in
theorem sum_in (parts : List Bs) (pb : Nat) (w : World) (hK : Konst w) (hpb : 1 < pb) (hrow : w.ownsRow pb 9 1 (.slice (some ⟨pb, 0, none⟩) parts.length parts.length) parts.length (cellsS parts)) (hp1 : 1 ≤ parts.length) (hp : parts.length ≤ 3)
    (hT : parts.flatten.length ≤ 100000000000) :
    CallsIn Fence.wide 3 Tryd.prog 60 #[.slice (some ⟨pb, 0, none⟩) parts.length parts.length] w fun e W' => e = .returned (.string ⟨(shaF parts.flatten).toArray⟩) ∧ Below pb w W' := by
  obtain ⟨T, hTe⟩ : ∃ T, parts.flatten = T := ⟨_, rfl⟩
  rw [hTe] at hT ⊢
  refine callsIn_of_wp_marks Tryd.func60 rfl trivial ?_ rfl
  simp only [Tryd.ntmps60, List.size_toArray, List.length_cons, List.length_nil, Nat.reduceAdd, Nat.reduceSub, Array.replicate_succ, Array.replicate_zero, List.push_toArray, List.append_toArray, List.nil_append, List.cons_append]
  obtain ⟨i0, hi, hz0, hz1, hz2⟩ := info_parts (show (Tryd.prog.info? 9).map (fun i => (i.zero, i.size, i.bytes)) = some (some (.string ⟨#[]⟩), 1, 16) from by kernel_rfl)
  have hi58 : (Tryd.prog.info? 95).map (·.size) = some 8 := by kernel_rfl
  have hpbw : pb < w.heap.size := by
    obtain ⟨g, c, h1, h2, h3⟩ := hrow.form (by omega)
    cases h1
    exact h3
  gi_wp2_with (first
    | (refine wpListIn_build8 rfl _ _ _ _ _ _ _ _ rfl ?_)
    | (refine wpListIn_store_row rfl 95 _ _ rfl w.heap.size (cells32 (listE initE)).toArray rfl rfl 95 zeros8 (heap_alloc_new w _) hi58 rfl rfl ?_))
  obtain ⟨W0, hW0, a0, b0, z0⟩ : ∃ W0, w.alloc (.cells init8 95) = W0 ∧ Hid (Arr32 W0 w.heap.size 95 (listE initE)) ∧ Below w.heap.size w W0 ∧ W0.heap.size = w.heap.size + 1 :=
    ⟨_, rfl, Lib.hid (heap_alloc_new w _), (Below.refl _ w).alloc (Nat.le_refl _) _, by simp⟩
  rw [hW0]
  have k0 := Lib.hid (hK.keep b0)
  have hrow0 : W0.ownsRow pb 9 1 (.slice (some ⟨pb, 0, none⟩) parts.length parts.length) parts.length (cellsS parts) := by rw [← hW0]; exact hrow.alloc _
  have Hrow := Lib.hid hrow0
  have hs0 := Lib.hid (row_strs hrow0)
  have Hsz := Lib.hid (sizesTo_succ parts)
  have HszT : Hid (sizesTo parts parts.length = T.length) := Lib.hid (by unfold sizesTo; rw [List.take_of_length_le (Nat.le_refl _), hTe])
  have hle : ∀ i, sizesTo parts i ≤ 100000000000 := fun i => by
    have : sizesTo parts i ≤ T.length := by
      rw [← hTe]
      unfold sizesTo
      conv => rhs; rw [← List.take_append_drop i parts, List.flatten_append, List.length_append]
      omega
    omega
  have Hle := Lib.hid hle
  have Hlen : Hid (∀ i, i < parts.length → (parts.getD i []).length ≤ 100000000000) := Lib.hid fun i hi => by
    have h1 := hle (i + 1)
    rw [sizesTo_succ parts i hi] at h1
    omega
  have HTe := Lib.hid hTe
  clear hW0 hK hrow hrow0 hle hTe
  obtain ⟨np, hnp⟩ : ∃ np, parts.length = np := ⟨_, rfl⟩
  rw [hnp] at hp hp1 Hrow Hsz Hlen HszT ⊢
  have Hnp := Lib.hid hnp
  clear hnp
  gi_loopw [4, 13] (fun sv iv wr => ∃ i : Nat, i ≤ np ∧ iv = .int .i64 i ∧ sv = .int .i64 ((sizesTo parts i : Nat) : Int) ∧ wr = W0) (fun _ iv _ => np - (intOf iv).toNat)
  case atStart => exact ⟨0, by omega, rfl, rfl, rfl⟩
  case round =>
    obtain ⟨i, hin, rfl, rfl, rfl⟩ := hrel
    by_cases hlt : i < np
    · have hc := hs0.out i (by rw [Hnp.out]; exact hlt)
      rw [Nat.zero_add] at hc
      have h1 := Hsz.out i hlt
      have h2 := Hle.out (i + 1)
      have h3 := Hlen.out i hlt
      have h4 : ((⟨(parts.getD i []).toArray⟩ : ByteArray).size : Nat) = (parts.getD i []).length := mk_size _
      rw [← h4] at h1 h3
      generalize (⟨(parts.getD i []).toArray⟩ : ByteArray) = s at *
      rw [h1] at h2
      have H1 := Lib.hid h1
      clear h1 h4
      generalize sizesTo parts i = z at *
      gi_wp2
      refine ⟨⟨i + 1, by omega, by go_num, by rw [H1.out]; go_num, trivial⟩, by simp [intOf]; omega⟩
    · obtain rfl : i = np := by omega
      rw [HszT.out]
      gi_wp2
      refine ⟨trivial, ?_⟩
      refine (callsIn_wide.2 (padding_calls T.length _ (by omega))).mono ?_
      rintro e wP ⟨rfl, bP⟩
      have hrowP : wP.ownsRow pb 9 1 (.slice (some ⟨pb, 0, none⟩) i i) i (cellsS parts) := row_keep Hrow.out (bP.block _ (by omega))
      have zP := bP.size
      have aP : Hid (Arr32 wP w.heap.size 95 (listE initE)) := Lib.hid ((bP.block _ (by omega)).trans a0.out)
      have kP := Lib.hid (k0.out.keep bP)
      have bW : Below pb w wP := (b0.mono (by omega)).trans (bP.mono (by omega))
      clear a0 k0 b0 bP hs0 Hrow Hsz Hle Hlen HszT hlt
      gi_wp2_with (gi_at_builtin; refine wpListIn_append_own _ rfl _ _ 94 rfl pb 9 i0 (.string ⟨#[]⟩) 1 16 Tryd.underlying94 hi hz0 hz1 hz2 rfl (by decide) (.slice (some ⟨pb, 0, none⟩) i i) i (cellsS parts) rfl (hrowP.alloc _) ⟨wP.heap.size, 0, none⟩ 1 1 [.string ⟨(padL T.length).toArray⟩] rfl rfl (cell_one_new _ _ _) (by simp [Value.oneCell']) (by unfold maxLen; omega) (by omega) (by simp; omega) ?_; intro v' w1 hown' hgrow _)
      refine ⟨trivial, ?_⟩
      obtain ⟨gg, cap, rfl, hgg, hggw⟩ := hown'.form (by omega)
      have hnpb : ∀ k, k < wP.heap.size → k ≠ pb → w1.heap[k]? = wP.heap[k]? := fun k hk hne =>
        (hgrow.block k (by simp; omega) (fun e => hne (Option.some.inj e))).trans (Below.heap_alloc _ _ _ hk)
      have z1 : wP.heap.size + 1 ≤ w1.heap.size := by have := hgrow.size; simpa using this
      have a1 : Hid (Arr32 w1 w.heap.size 95 (listE initE)) := Lib.hid ((hnpb _ (by omega) (by omega)).trans aP.out)
      have k1 : Hid (Konst w1) := Lib.hid fun j hj => (World.cell?_of_block (hnpb _ (kP.out.lt) (by show 1 ≠ pb; omega))).trans (kP.out j hj)
      have b1 : Below pb w w1 := bW.trans (((Below.refl pb wP).alloc (by omega) _).grown hgrow (by simp; omega) (fun q e => by cases e; exact Nat.le_refl _))
      have hown2 : w1.ownsRow pb 9 1 (.slice (some ⟨gg, 0, none⟩) (i + 1) cap) (i + 1) (cellsS (parts ++ [padL T.length])) := by rw [cellsS_snoc]; exact hown'
      have s1 := row_strs hown2
      have hcap : i + 1 ≤ cap := by
        rcases hown2.2 with ⟨h, _⟩ | ⟨_, _, _, h, _, _, h3, _⟩
        · cases h
        · cases h; exact h3
      have hgw : gg ≠ w.heap.size := fun e => by
        rcases hown2.2 with ⟨h, _⟩ | ⟨_, _, cur, h, _, h3, _⟩
        · cases h
        · cases h
          rw [e, a1.out] at h3
          have h4 := Option.some.inj h3
          injection h4 with _ h5
          exact absurd h5 (by decide)
      have hLl : (parts ++ [padL T.length]).length = i + 1 := by rw [List.length_append, Hnp.out]; rfl
      have hfl : (parts ++ [padL T.length]).flatten = padF T := by rw [List.flatten_append, HTe.out]; simp [padF_eq]
      clear hown' hgrow hnpb aP kP bW hrowP hown2
      refine (blocks_in _ _ _ _ _).mono ?_
      rintro e w2 ⟨rfl, rfl⟩
      gi_wp2
      obtain ⟨w2, hw2, a2, k2, b2, z2, s2, c2⟩ : ∃ w2, w1.alloc (.cells #[.slice (some ⟨gg, 0, none⟩) (i + 1) cap] 94) = w2 ∧ Hid (Arr32 w2 w.heap.size 95 (listE initE)) ∧ Hid (Konst w2) ∧ Below pb w w2 ∧ w2.heap.size = w1.heap.size + 1 ∧ StrsAt w2 gg 0 (parts ++ [padL T.length]) ∧
          w2.cell? ⟨w1.heap.size, 0, none⟩ = some (.slice (some ⟨gg, 0, none⟩) (i + 1) cap) := by
        refine ⟨_, rfl, Lib.hid ((Below.heap_alloc _ _ _ (by omega)).trans a1.out), Lib.hid (k1.out.keep ((Below.refl _ w1).alloc (Nat.le_refl _) _)), b1.alloc (by omega) _, by simp, s1.keep ((Below.refl _ w1).alloc (Nat.le_refl _) _), ?_⟩
        rw [cell_of_row _ _ _ _ _ _ (heap_alloc_new w1 _)]
        rfl
      rw [hw2]
      have hg2 : w.heap.size < w2.heap.size := by omega
      have hlT : (padF T).length ≤ 1000000000000 := by
        rw [padF_eq, List.length_append, ← padAt_full, padAt_length _ _ (Nat.le_refl _)]
        have : padZ T.length < 64 := Nat.mod_lt _ (by omega)
        omega
      rw [← hLl] at c2
      have hseq := blocks1_in 2 w.heap.size w1.heap.size gg 0 cap (parts ++ [padL T.length]) w2 hg2 hgw c2 s2 (by rw [hLl]; exact hcap) (by rw [hLl]; omega) (by rw [hfl]; exact hlT)
      rw [hfl] at hseq
      clear hw2 a1 k1 b1 s1 hLl hfl c2 s2
      refine wpIn_rangeFunc_mem rfl (by omega) (gf := 82) (lb := #[.pointer (some ⟨w1.heap.size, 0, none⟩)]) rfl trivial (enters_of Tryd.func82 (by kernel_rfl) rfl) (fun _ => rfl) hg2 hseq
        (fun pre W => (Hid (Arr32 W w.heap.size 95 (listE (hashL pre))) ∧ Hid (Konst W)) ∧ Below pb w W ∧ w.heap.size < W.heap.size) ?hI ⟨⟨a2, k2⟩, b2, hg2⟩
        (fun x B => { tmps := #[.slice (some ⟨pb, 0, none⟩) i i, undef, .string ⟨#[]⟩, .pointer (some ⟨w.heap.size, 0, none⟩), .int .i64 T.length, undef, u6, .pointer (some ⟨B, 0, none⟩), undef, undef, .agg init8,
          .slice (some ⟨pb, 0, none⟩) i i, .int .i64 i, .int .i64 i, .bool false, u15, u16, u17, u18, u19, u20, u21, .slice (some ⟨pb, 0, none⟩) i i, .int .i64 T.length, .string ⟨(padL T.length).toArray⟩, .slice (some ⟨wP.heap.size, 0, none⟩) 1 1,
          .slice (some ⟨gg, 0, none⟩) (i + 1) cap, .func (.func 82) #[] #[.pointer (some ⟨w1.heap.size, 0, none⟩)], .agg (cells8 x).toArray,
          undef, undef, undef, undef, undef, undef, undef, undef, undef, undef, undef, undef, undef, undef, undef, undef, undef, undef, undef, undef, undef], defers := [] })
        (fun x => .cells (cells8 x).toArray 99) ?assign ?body ?done
      case hI =>
        rintro s A B row ⟨⟨ha, hk⟩, hb, hz⟩ hgr hr
        have hne : (some w.heap.size : Option Nat) ≠ row := fun e => by have := hr _ e.symm; omega
        refine ⟨⟨Lib.hid ((hgr.block _ hz hne).trans ha.out), Lib.hid fun j hj => (World.cell?_of_block (hgr.block _ hk.out.lt (fun e => by have h1 := hr _ e.symm; have h2 : w2.heap.size ≤ 1 := h1; omega))).trans (hk.out j hj)⟩, hb.grown hgr (by omega) (fun k e => by have := hr k e; omega), Nat.lt_of_lt_of_le hz hgr.size⟩
      case assign =>
        intro l x W K hx hKK
        have hi62 : (Tryd.prog.info? 99).map (·.size) = some (cells8 x).toArray.size := (show (Tryd.prog.info? 99).map (·.size) = some 64 from by kernel_rfl).trans (by simp [cells8_length, hx])
        have hzz : zeros64b.size = (cells8 x).toArray.size := by simp [cells8_length, hx]
        gi_wp2_with (refine wpListIn_store_row rfl 99 _ _ rfl W.heap.size (cells8 x).toArray rfl rfl 99 zeros64b (heap_alloc_new W _) hi62 hzz (cells8_one x) ?_)
        rw [World.setRow_alloc_new]
        exact hKK
      case body =>
        rintro l pre x W B hx ⟨⟨ha, hk⟩, hb, hz⟩ hlen hB hBz
        dsimp only
        have hi62 : (Tryd.prog.info? 99).map (·.size) = some (cells8 x).toArray.size := (show (Tryd.prog.info? 99).map (·.size) = some 64 from by kernel_rfl).trans (by simp [cells8_length, hx])
        have hok := hashL_ok pre
        have Hsn := Lib.hid (hashL_snoc pre x)
        generalize hashL pre = v at *
        have hA := ha.out
        unfold Arr32 at hA
        have hi58' : (Tryd.prog.info? 95).map (·.size) = some (cells32 (listE v)).toArray.size := hi58
        gi_wp2_with (first
          | (refine wpListIn_load_row rfl 95 _ rfl w.heap.size rfl _ _ _ _ hA Tryd.underlying95 rfl hi58' ?_)
          | (refine wpListIn_load_row rfl 99 _ rfl B rfl _ _ _ _ hB Tryd.underlying99 rfl hi62 ?_))
        refine ⟨trivial, ?_⟩
        refine (CallsIn.inRound l (callsIn_wide.2 (compress_calls v x W hk.out hok hx))).mono ?_
        rintro e W3 ⟨rfl, b3⟩
        generalize blockE v x = v' at *
        have hi58s : (Tryd.prog.info? 95).map (·.size) = some (cells32 (listE v')).toArray.size := hi58.trans (congrArg some (cells32E_size v').symm)
        have hold := (cells32E_size v).trans (cells32E_size v').symm
        have hA3 : W3.heap[w.heap.size]? = some (.cells (cells32 (listE v)).toArray 95 (0, 0)) := (b3.block _ hz).trans hA
        gi_wp2_with (refine wpListIn_store_row rfl 95 _ _ rfl w.heap.size (cells32 (listE v')).toArray rfl rfl 95 (cells32 (listE v)).toArray hA3 hi58s hold (cells32_one _) ?_)
        rw [Hsn.out]
        exact sum_keep pb w W W3 (listE v) (listE v') hA3 hk.out hb hz b3 hpb hpbw
      case done =>
        rintro D W hD ⟨⟨ha, hk⟩, hb, hz⟩ hDD
        have hend : shaF T = bytesE (hashL (blks (padF T) ((padF T).length / 64))) := by rw [hashL_blks]; rfl
        have Hend := Lib.hid hend
        generalize hashL (blks (padF T) ((padF T).length / 64)) = v at *
        have hDlt : D < W.heap.size := (Array.getElem?_eq_some_iff.1 hDD).1
        dsimp only
        gi_wp2
        obtain ⟨W4, hW4, d4, a4, b4, e4, z4⟩ : ∃ W4, W.alloc (.cells zeros32b 101) = W4 ∧ Hid (Arr8 W4 W.heap.size 101 (fillB v 0)) ∧ Hid (Arr32 W4 w.heap.size 95 (listE v)) ∧ Below pb w W4 ∧ Hid (W4.heap[D]? = some (.deferred (some []))) ∧ W4.heap.size = W.heap.size + 1 :=
          ⟨_, rfl, Lib.hid (heap_alloc_new W _), Lib.hid ((Below.heap_alloc _ _ _ hz).trans ha.out), hb.alloc (by omega) _, Lib.hid ((Below.heap_alloc _ _ _ hDlt).trans hDD), by simp⟩
        rw [hW4]
        clear hW4 ha hk hb hDD hseq hend
        gi_loopw [32] (fun iv wr => ∃ i : Nat, i ≤ 32 ∧ iv = .int .i64 i ∧ Hid (Arr8 wr W.heap.size 101 (fillB v i)) ∧ Hid (Arr32 wr w.heap.size 95 (listE v)) ∧ Below pb w wr ∧ Hid (wr.heap[D]? = some (.deferred (some []))) ∧ wr.heap.size = W.heap.size + 1)
          (fun iv _ => 32 - (intOf iv).toNat)
        case atStart => exact ⟨0, by omega, rfl, d4, a4, b4, e4, z4⟩
        case round =>
          obtain ⟨i, hi, rfl, dR, aR, bR, eR, zR⟩ := hrel
          by_cases hlt : i < 32
          · have c1 := aR.out.cell (i / 4) (show i / 4 < 8 by omega)
            have c2 := dR.out.cell i (by rcases fillB_length v i with h | h <;> omega)
            have cf : wr.frozen? ⟨W.heap.size, i, none⟩ = false := frozen_of_row _ _ _ _ _ dR.out
            have Hset := Lib.hid (fillB_set v i hlt)
            gi_wp2
            have hv : (((UInt8.ofNat ((listE v).getD (i / 4) 0 >>> (24 - 8 * (i % 4)))).toNat : Nat) : Int) = (((listE v)[i / 4]?.getD 0 : Nat) : Int) / 2 ^ (24 - 8 * (i % 4)) % 256 := by
              rw [UInt8.toNat_ofNat', List.getD_eq_getElem?_getD, Nat.shiftRight_eq_div_pow]
              simp
            have hA := dR.out.set i _ _ hv
            rw [Hset.out] at hA
            have bS : Below W.heap.size wr (wr.setCell ⟨W.heap.size, i, none⟩ (.int .u8 ((((listE v)[i / 4]?.getD 0 : Nat) : Int) / 2 ^ (24 - 8 * (i % 4)) % 256))) := Below.setCell (p := ⟨W.heap.size, i, none⟩) (Below.refl _ wr) (Nat.le_refl _) _
            refine ⟨⟨i + 1, by omega, by go_num, Lib.hid hA, Lib.hid ((bS.block _ hz).trans aR.out), bR.setCell (show pb ≤ W.heap.size by omega) _, Lib.hid ((bS.block _ hDlt).trans eR.out), ?_⟩, by simp [intOf]; omega⟩
            simpa using zR
          · obtain rfl : i = 32 := by omega
            have hl32 : (fillB v 32).length = 32 := by rcases fillB_length v 32 with h | h <;> omega
            have hfull : fillB v 32 = bytesE v := by
              unfold fillB
              rw [List.take_of_length_le (by show 32 ≤ 32; omega)]
              simp
            have hcv := run_convert_bytes_arg (P := Tryd.prog) wr 69 5 Tryd.underlying69 Tryd.underlying5 W.heap.size 0 32 32 ((bytesE v).map fun b => ((b.toNat : Nat) : Int)) (by rw [List.length_map]; rfl) (fun j hj => by
              rw [Nat.zero_add, dR.out.cell j (by rw [hl32]; exact hj), hfull]
              have hj2 : j < (bytesE v).length := hj
              simp [List.getElem?_map, List.getElem?_eq_getElem hj2]) 9 Tryd.underlying9
            rw [str_bytes] at hcv
            have eK := eR.out
            gi_wp2
            refine ⟨by simp, .inl ⟨_, _, rfl, run_takeDeferred eK, ?_⟩⟩
            refine ⟨_, results_tmp rfl _ _ _, by rw [Hend.out]; rfl, ?_⟩
            exact bR.grown ⟨rfl, rfl, rfl, by simp, fun k _ hk => World.putObj_heap_other (fun e => hk (by rw [e]))⟩ (by omega) (fun k e => by cases e; omega)
end Go.Proofs.YtnbeebndcgoalaaDoor
