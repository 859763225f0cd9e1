/- The contract of base.Of: ten lists, each of those of its kind that prevail, by ascending keys. -/
import Derived.Test.YtngkfopdlkddnaaK24
import Derived.Test.YtngkfopdlkddnaaK27
import Derived.Test.YtngkfopdlkddnaaK28
import Derived.Test.YtngkfopdlkddnaaK22
namespace Go.Proofs.Ytngkfopdlkddnaa
open Go Go.RowKit Go.Maps Go.Sort
/-- The facts that prevail, those of one kind, by their keys. -/
def lsK (bst : K3 → Option Fx) (ds : List K3) (k : Nat) : List Fx := (ds.filter (fun key => decide (key.1 = (k : Int) + 1))).filterMap bst
theorem lsK_snoc (bst : K3 → Option Fx) (ds : List K3) (key : K3) (x : Fx) (hx : bst key = some x) (k kk : Nat) (hk : key.1 = (kk : Int) + 1) : lsK bst (ds ++ [key]) k = if k = kk then lsK bst ds kk ++ [x] else lsK bst ds k := by
  unfold lsK
  rw [List.filter_append]
  by_cases e : k = kk
  · subst e
    rw [if_pos rfl]
    have h1 : List.filter (fun key : K3 => decide (key.1 = (k : Int) + 1)) [key] = [key] := by simp [hk]
    rw [h1, List.filterMap_append]
    simp [hx]
  · have h1 : List.filter (fun key : K3 => decide (key.1 = (k : Int) + 1)) [key] = [] := by
      simp only [List.filter_cons, List.filter_nil]
      rw [decide_eq_false (by omega)]
      rfl
    rw [if_neg e, h1, List.append_nil]
theorem lsK_len (bst : K3 → Option Fx) (ds : List K3) (k : Nat) : (lsK bst ds k).length ≤ ds.length := by
  unfold lsK
  exact Nat.le_trans (List.length_filterMap_le _ _) (List.length_filter_le _ _)
/-- What Of's lists are. -/
def OfP (l : List Fa) (Ms : Nat → List Fx) : Prop := ∀ k : Nat, k < 10 → Bs.Lst okX keyX pvX ltK (fun key => key.1 = (k : Int) + 1) (l.map nfX) (Ms k)
theorem ofP_keys {l : List Fa} {es : List Ent} {ds : List K3} (hP : BestP (l.map nfX) es) (hA : AllKeys es ds) (ha : Bs.AscK ltK ds) : OfP l (lsK (bestX (l.map nfX)) ds) := fun k _ => by
  have h := Bs.lst_keys (cl := fun key : K3 => key.1 = (k : Int) + 1) lawsX (l := l.map nfX) ha (fun key => ?_)
  · exact h
  · have e1 : key ∈ ds ↔ InK key ∧ hasE es (kb key) = true := by
      constructor
      · intro h
        exact ⟨hA.1 key h, (hA.2.2 _).1 (List.mem_map_of_mem h)⟩
      · rintro ⟨h1, h2⟩
        obtain ⟨j, hj, e⟩ := List.mem_map.1 ((hA.2.2 _).2 h2)
        rw [← kb_inj (hA.1 j hj) h1 e]; exact hj
    rw [e1]
    constructor
    · rintro ⟨h1, h2⟩ h3
      have h4 := hP.2.1 key h1
      have h3' : bestX (l.map nfX) key = none := h3
      unfold hasE at h2
      rw [h4, h3'] at h2
      cases h2
    · intro h
      obtain ⟨x, hx⟩ := Option.ne_none_iff_exists'.1 h
      have h5 := Bs.best_some lawsX hx
      have hin : InK key := by rw [← h5.2.2.1]; exact ok_inK h5.2.1
      refine ⟨hin, ?_⟩
      have h4 := hP.2.1 key hin
      unfold hasE
      rw [h4, show bestX (l.map nfX) key = some x from hx]
      rfl
theorem kind_ok {x : Fx} (h : okX x = true) : 1 ≤ (keyX x).1 ∧ (keyX x).1 ≤ 10 := by
  have := of_decide_eq_true (show decide (okF (faX x).1 ((faX x).2.size : Int)) = true from h)
  exact this.1
theorem fn_zero (w : World) : ∃ z, (zeroValue 64).run Try.prog w = .ok z w := ⟨_, Try.zeroValue64 w⟩
theorem KindsAt.look {w : World} {m : Nat} {f : Nat → Value} (h : KindsAt w m f) {k : Nat} (k1 : 1 ≤ k) (k2 : k ≤ 10) : (Instr.lookup 58 (.map (some m)) (.int .i64 (k : Int)) false).run Try.prog w = .ok (f k) w := by
  obtain ⟨n, D, _, hown, hK⟩ := h
  obtain ⟨z, hz⟩ := fn_zero w
  obtain ⟨v, ps, hrun, hv⟩ := World.ownsMap.lookup hown lawI Try.underlying58 hz (show valR z = some (.held z, []) from rfl) (lk_key k k2)
  rw [((hK.2.1 k k1 k2).2 trivial).2] at hv
  unfold valR at hv
  simp only [Option.some.injEq, Prod.mk.injEq, DataW.held.injEq] at hv
  rw [hrun, hv.1]
theorem KindsAt.grown {w w' : World} {m : Nat} {f : Nat → Value} {row : Option Nat} (h : KindsAt w m f) (hg : w.grownBy w' row) (hr : some m ≠ row) : KindsAt w' m f := by
  obtain ⟨n, D, hn, hown, hK⟩ := h
  exact ⟨n, D, hn, hown.kept hg hr, hK⟩
theorem RowA.base {w : World} {a b : Nat} {v : Value} {l : List Fa} (h : RowA w a v l) (hab : b ≤ a) : RowA w b v l := by
  refine ⟨h.1, ?_⟩
  rcases h.2 with h0 | ⟨g, cap, cur, hv, hbg, r⟩
  · exact .inl h0
  · exact .inr ⟨g, cap, cur, hv, Nat.le_trans hab hbg, r⟩
theorem KeysAt.grown {w w' : World} {v : Value} {ks : List K3} {row : Option Nat} (h : KeysAt w v ks) (hg : w.grownBy w' row) (hr : ∀ g, v.ownBlock = some g → row ≠ some g) : KeysAt w' v ks := by
  rcases h with h | ⟨g, cap, e, hc, hH⟩
  · exact .inl h
  · refine .inr ⟨g, cap, e, hc, fun j hj => ?_⟩
    obtain ⟨h1, h2⟩ := hH j hj
    have hlt : g < w.heap.size := by
      obtain ⟨x, hx⟩ : ∃ x, w.cell? ⟨g, 0 + j, none⟩ = some x := ⟨_, h1⟩
      exact lt_of_cell hx
    have hb := hg.block g hlt (fun e2 => hr g (by rw [e]; rfl) e2.symm)
    exact ⟨(World.cell?_of_block hb).trans h1, (World.frozen?_of_block hb).trans h2⟩
theorem below_grown {w w' : World} (hb : Below w.heap.size w w') : w.grownBy w' none := ⟨hb.os, hb.tape, hb.output, hb.size, fun i hi _ => hb.block i hi⟩
theorem setRow_grown (w : World) (g : Nat) (cs : Array Value) : w.grownBy (w.setRow g cs) (some g) := ⟨rfl, rfl, rfl, by simp, fun k _ hne => setRow_other _ _ _ _ (fun e => hne (by rw [e]))⟩
theorem keysAt_slice {w : World} {v : Value} {ks : List K3} (h : KeysAt w v ks) : ∃ A cap, v = .slice A ks.length cap ∧ (ks = [] ∨ ∃ g, A = some ⟨g, 0, none⟩ ∧ HoldsK encK 3 w g 0 ks.toArray) := by
  rcases h with ⟨h, e⟩ | ⟨g, cap, e, hc, hH⟩
  · exact ⟨none, 0, by rw [h, e]; rfl, .inl e⟩
  · exact ⟨_, cap, e, .inr ⟨g, rfl, hH⟩⟩
theorem run_load_key (w : World) (b o : Nat) (k : K3) (h0 : w.cell? ⟨b, o, none⟩ = some (.int .i64 k.1)) (h1 : w.cell? ⟨b, o + 1, none⟩ = some (.int .i64 k.2.1)) (h2 : w.cell? ⟨b, o + 2, none⟩ = some (.int .i64 k.2.2)) :
    (loadVar 41 ⟨b, o, none⟩).run Try.prog w = .ok (.agg (keyA k)) w := by
  have hl : (loadCells ⟨b, o, none⟩ 3).run Try.prog w = .ok (keyA k) w :=
    run_loadCells_list (P := Try.prog) w ⟨b, o, none⟩ [.int .i64 k.1, .int .i64 k.2.1, .int .i64 k.2.2] (fun j x hx => by
      have hadd : (⟨b, o, none⟩ : Addr).add j = ⟨b, o + j, none⟩ := by unfold Addr.add; split <;> simp_all
      rw [hadd]
      rcases j with _ | _ | _ | j
      · cases hx; exact h0
      · cases hx; exact h1
      · cases hx; exact h2
      · simp at hx)
  have hagg : (isAgg 41).run Try.prog w = .ok true w := Try.isAgg41 w
  have hsz : (sizeOf 41).run Try.prog w = .ok 3 w := Try.sizeOf41 w
  unfold loadVar
  simp only [Sem.run_bind, hagg, hsz, Result.andThen_ok, if_true, hl, Sem.run_pure]
theorem wpList_load_keyAt {ops : Array Oper} {rest : List Oper} {o : Oper} {a : Act} {w : World} {Q : Exit → Act → World → Prop} (hgd : o.guard = none) (x : Operand) (ho : o.op = .load 41 x)
    (b j : Nat) (hx : a.eval x = .pointer (some ⟨b, j, none⟩)) (k : K3) (h0 : w.cell? ⟨b, j, none⟩ = some (.int .i64 k.1)) (h1 : w.cell? ⟨b, j + 1, none⟩ = some (.int .i64 k.2.1)) (h2 : w.cell? ⟨b, j + 2, none⟩ = some (.int .i64 k.2.2))
    (h : wpList Try.prog ops Q rest (a.put o.dst (.agg (keyA k))) w) : wpList Try.prog ops Q (o :: rest) a w := by
  refine wpList_plain hgd fun K hK => ?_
  have hl := run_load_key w b j k h0 h1 h2
  generalize keyA k = c at *
  unfold Oper.wp execOp
  simp only [ho, hx, Instr.loadAt, Instr.sureAddr, Sem.run_bind, Sem.run_pure, Result.andThen_ok, hl]
  exact hK _ _ h
theorem mix_load_key {ops : Array Oper} {C : World → Prop} {Q : Exit → Act → World → Prop} {o : Oper} {l : List Oper} {bs : List Bool} {a : Act} {w : World} (hw : Region.wanted o (yielded ops a.tmps) = true) (x : Operand) (ho : o.op = .load 41 x) (g : Nat) (hx : a.eval x = .pointer (some ⟨g, 0, none⟩)) (key : K3)
    (hv : ∀ w', C w' → w'.heap[g]? = some (.cells (keyA key) 41 (0, 0))) (k : wpMix Try.prog ops Q C bs l (a.put o.dst (.agg (keyA key))) w) : wpMix Try.prog ops Q C (true :: bs) (o :: l) a w :=
  mix_val _ hw (fun w' hc => by
    unfold execOp
    simp only [ho, hx, Instr.loadAt, Instr.sureAddr, Sem.run_bind, Sem.run_pure, Result.andThen_ok, run_loadVar_row w' g 41 41 (keyA key) (0, 0) _ (hv w' hc) Try.underlying41 rfl infoK]) k
/-- What holds in the loop's region. -/
def InKey (base p kb : Nat) (key : K3) (w w' : World) : Prop := KeepB base p w w' ∧ w'.heap[kb]? = some (.cells (keyA key) 41 (0, 0)) ∧ base ≤ w'.heap.size
theorem InKey.below {base p kb : Nat} {key : K3} {w w1 w2 : World} (h : InKey base p kb key w w1) (hb : Below w1.heap.size w1 w2) : InKey base p kb key w w2 :=
  ⟨h.1.below hb h.2.2, (hb.block _ (Array.getElem?_eq_some_iff.1 h.2.1).1).trans h.2.1, Nat.le_trans h.2.2 hb.size⟩
theorem key_best {l : List Fa} {es : List Ent} {ds : List K3} (hP : BestP (l.map nfX) es) (hA : AllKeys es ds) {key : K3} (hk : key ∈ ds) : ∃ x, bestX (l.map nfX) key = some x ∧ InK key ∧ lookE es (kb key) = valF (faX x) ∧ okX x = true ∧ keyX x = key := by
  have hin := hA.1 key hk
  have h1 : hasE es (kb key) = true := (hA.2.2 _).1 (List.mem_map_of_mem hk)
  have h4 := hP.2.1 key hin
  cases hb : bestX (l.map nfX) key with
  | none => rw [hb] at h4; unfold hasE at h1; rw [h4] at h1; cases h1
  | some x => rw [hb] at h4; exact ⟨x, rfl, hin, by unfold lookE; rw [h4]; rfl, (Bs.best_some lawsX hb).2.1, (Bs.best_some lawsX hb).2.2.1⟩
theorem info10 : (Try.prog.info? 32).map (·.size) = some 10 := by kernel_rfl
theorem one10 {w : World} {base : Nat} {vs : Nat → Value} {Ls : Nat → List Fa} (h : ∀ k, k < 10 → RowA w base (vs k) (Ls k)) : (cells10 vs).all (·.oneCell') = true := by
  have hk : ∀ k, k < 10 → (vs k).oneCell' = true := fun k hk => by obtain ⟨A, cap, e, _⟩ := RowA.slice (h k hk); rw [e]; rfl
  simp [cells10, hk 0 (by omega), hk 1 (by omega), hk 2 (by omega), hk 3 (by omega), hk 4 (by omega), hk 5 (by omega), hk 6 (by omega), hk 7 (by omega), hk 8 (by omega), hk 9 (by omega)]
set_option maxRecDepth 100000 in
set_option maxHeartbeats 4000000 in
theorem Of_calls (A : Option Addr) (l : List Fa) (cap : Nat) (w : World) (hA : FactsS w A l) (hl : l.length ≤ 100000) :
    Calls Try.prog 11 #[.slice A l.length cap] w fun e W' => ∃ (vs : Nat → Value) (Ms : Nat → List Fx), e = .returned (.agg (cells10 vs)) ∧ OfP l Ms ∧ (∀ k, k < 10 → RowA W' w.heap.size (vs k) ((Ms k).map faX) ∧ (Ms k).length ≤ l.length) ∧ Below w.heap.size w W' := by
  have HA := Lib.hid hA
  clear hA
  go_enter Try.func11, Try.ntmps11
  go_upto_region 2 with (fail)
  obtain ⟨W0, hW0, f0, f1, b0⟩ := two_rows w (cells10 (fun _ => .slice none 0 0)) (cells10 (fun _ => .slice none 0 0)) 32 32
  have hW0' : (w.alloc (.cells #[.slice none 0 0, .slice none 0 0, .slice none 0 0, .slice none 0 0, .slice none 0 0, .slice none 0 0, .slice none 0 0, .slice none 0 0, .slice none 0 0, .slice none 0 0] 32)).alloc (.cells #[.slice none 0 0, .slice none 0 0, .slice none 0 0, .slice none 0 0, .slice none 0 0, .slice none 0 0, .slice none 0 0, .slice none 0 0, .slice none 0 0, .slice none 0 0] 32) = W0 := hW0
  rw [hW0']
  clear hW0 hW0'
  have hz0 : w.heap.size + 1 < W0.heap.size := (Array.getElem?_eq_some_iff.1 f1).1
  have F0 := Lib.hid f0
  have F1 := Lib.hid f1
  have B0 := Lib.hid b0
  clear f0 f1 b0
  generalize hp : w.heap.size + 1 = p at *
  go_wp2_with fail
  refine (adders_calls p W0).mono ?_
  rintro e W1 ⟨m, bx, rfl, hK, hBx, hm, b1⟩
  have HK := Lib.hid hK
  have HBx := Lib.hid hBx
  have B1 := Lib.hid b1
  have hz1 := b1.size
  clear hK hBx b1
  go_wp2_with fail
  refine (prevailing_calls A l cap W1 (HA.out.keep (B0.out.trans (Below.mono B1.out (by omega)))) hl).mono ?_
  rintro e W2 ⟨rfl, ⟨es, hM, hP⟩, b2⟩
  have HM := Lib.hid hM
  have HP := Lib.hid hP
  have B2 := Lib.hid b2
  have hz2 := b2.size
  clear hM hP b2
  go_wp2_with fail
  refine (ascending_calls W1.heap.size es W2 HM.out HP.out.2.2.1 (by have := HP.out.2.2.2; rw [List.length_map] at this; omega)).mono ?_
  rintro e W3 ⟨v, ds, rfl, ha, hk, ht, b3⟩
  obtain ⟨A3, cap3, rfl, hst⟩ := keysAt_slice ht
  have hz3 := b3.size
  have hesl : es.length ≤ l.length := by have := HP.out.2.2.2; rwa [List.length_map] at this
  have hdsl : ds.length ≤ l.length := Nat.le_trans hk.len hesl
  have HOF := Lib.hid (ofP_keys HP.out hk ha)
  have HKB := Lib.hid (fun key (h : key ∈ ds) => key_best HP.out hk h)
  have HKI := Lib.hid ((HK.out.grown (below_grown B2.out) (by simp)).grown (below_grown b3) (by simp))
  have HBX := Lib.hid ((HBx.out.below B2.out).below b3)
  have HBM := Lib.hid (HM.out.below b3)
  have HST := Lib.hid hst
  have B03 := Lib.hid ((B1.out.trans (B2.out.mono hz1)).trans (b3.mono (Nat.le_trans hz1 hz2)))
  have G0 := Lib.hid ((B03.out.block _ (by omega)).trans F0.out)
  have G1 := Lib.hid ((B03.out.block _ (by omega)).trans F1.out)
  have HM1 : W1.heap.size < W3.heap.size := World.ownsMap.lt HBM.out
  have BW := Lib.hid (B0.out.trans (B03.out.mono (by omega)))
  have hmm : m < W3.heap.size := by
    obtain ⟨n, D, _, hown, _⟩ := HKI.out
    exact World.ownsMap.lt hown
  clear ha hk ht b3 HK HBx HM HP B1 B2 F0 F1 B03 B0 hst
  generalize hbst : bestX (l.map nfX) = bst at *
  clear hbst
  go_upto_region 5 with (fail)
  have hB0 : BaseB W3 W3.heap.size p (fun j => (lsK bst (ds.take 0) j).map faX) := ⟨fun _ => .slice none 0 0, G1.out, fun k _ => RowA.nil _ _, fun i j _ _ _ => .inl rfl⟩
  have HB0 := Lib.hid hB0
  have HK0 := Lib.hid (KeepB.refl W3.heap.size p W3)
  clear hB0
  go_loopw [14] (fun iv wr => ∃ k : Nat, k ≤ ds.length ∧ iv = .int .i64 k ∧ Hid (BaseB wr W3.heap.size p (fun j => (lsK bst (ds.take k) j).map faX)) ∧ Hid (KeepB W3.heap.size p W3 wr)) (fun iv _ => ds.length - (intOf iv).toNat)
  case atStart => exact ⟨0, by omega, rfl, HB0, HK0⟩
  case round =>
    clear HB0 HK0
    obtain ⟨k, hk, rfl, HB, HKe⟩ := hrel
    have k0 : (0 : Int) ≤ (k : Int) := by omega
    have hzr : W3.heap.size ≤ wr.heap.size := HKe.out.2.2.2.1
    by_cases hlt : k < ds.length
    rotate_left
    · obtain rfl : k = ds.length := by omega
      have k1 : (ds.length : Int) ≤ (ds.length : Int) := by omega
      clear hlt hk
      obtain ⟨vs, hS⟩ := HB.out
      rw [List.take_of_length_le (Nat.le_refl _)] at hS
      have P1 := Lib.hid hS.1
      have G0' := Lib.hid ((HKe.out.2.2.2.2 w.heap.size (.inl (by omega)) (by omega)).trans G0.out)
      have hone := one10 hS.2.1
      have hi10 : (Try.prog.info? 32).map (·.size) = some (cells10 vs).size := info10
      have HS := Lib.hid hS
      clear hS HB
      go_wp2_with (first
        | refine wpList_load_row rfl 32 _ rfl p rfl _ _ _ _ P1.out Try.underlying32 rfl hi10 ?_
        | refine wpList_store_row rfl 32 _ _ rfl w.heap.size (cells10 vs) rfl rfl 32 _ G0'.out hi10 rfl hone ?_)
      refine bodyPost_ret (v := .agg (cells10 vs)) ?_ rfl ?_
      · exact results_cell_row rfl _ _ w.heap.size 32 _ (0, 0) _ rfl (setRow_heap _ w.heap.size _ _ 32 (0, 0) G0'.out) Try.underlying32 rfl hi10
      · refine ⟨vs, lsK bst ds, rfl, HOF.out, fun k hk => ⟨?_, Nat.le_trans (lsK_len _ _ _) hdsl⟩, below_setRow' (BW.out.grown HKe.out.grownBy (by omega) (fun j e => by cases e; omega)) _ _ (Nat.le_refl _)⟩
        have h1 := HS.out.2.1 k hk
        refine RowA.base (World.ownsRow.kept h1 (setRow_grown _ w.heap.size _) ?_) (show w.heap.size ≤ W3.heap.size by omega)
        by_cases e : (vs k).ownBlock = none
        · exact .inl e
        · refine .inr (fun e2 => ?_)
          have := (World.ownsRow.lt h1 _ e2).1
          omega
    · have k1 : (k : Int) < (ds.length : Int) := by omega
      rcases HST.out with hz | ⟨g, rfl, hH⟩
      · rw [hz] at hlt; exact absurd hlt (by simp)
      obtain ⟨key, hkey⟩ : ∃ key, ds[k] = key := ⟨_, rfl⟩
      obtain ⟨x, hx, hin, hlook, hok, hkx⟩ := HKB.out key (by rw [← hkey]; exact List.getElem_mem hlt)
      have hg3 : g < W3.heap.size := lt_of_cell (keys_of_holds hH k (by simpa using hlt)).1
      have hH2 := keys_of_holds hH k (by simpa using hlt)
      rw [show (ds.toArray[k]! : K3) = key by rw [getElem!_pos ds.toArray k (by simpa using hlt)]; simpa using hkey] at hH2
      have hgp : g ≠ p := fun e => by
        have h := hH2.1
        rw [e, cell_of_row _ _ _ _ _ _ G1.out] at h
        by_cases hk10 : k * 3 < 10
        · rw [cells10_get _ hk10] at h; cases h
        · rw [Array.getElem?_eq_none (by simp; omega)] at h; cases h
      have HC0 := Lib.hid (HKe.out.cell hg3 hgp hH2.1)
      have HC1 := Lib.hid (HKe.out.cell hg3 hgp hH2.2.1)
      have HC2 := Lib.hid (HKe.out.cell hg3 hgp hH2.2.2)
      obtain ⟨kk, hkk, hk10⟩ : ∃ kk : Nat, key.1 = (kk : Int) + 1 ∧ kk < 10 := by
        have := kind_ok hok
        rw [hkx] at this
        exact ⟨(key.1 - 1).toNat, by omega, by omega⟩
      have hTK : ds.take (k + 1) = ds.take k ++ [key] := by rw [List.take_succ_eq_append_getElem hlt, hkey]
      have HSN := Lib.hid (fun j => lsK_snoc bst (ds.take k) key x hx j kk hkk)
      have hbl := (HBX.out (kk + 1) (by omega) (by omega) trivial).1
      have hbc := (HBX.out (kk + 1) (by omega) (by omega) trivial).2
      have hbb : bx (kk + 1) < W3.heap.size := lt_of_cell hbc
      have hbp : bx (kk + 1) ≠ p := by omega
      have hbc2 : W3.cell? ⟨bx (kk + 1), 0, none⟩ = some (.pointer (some ⟨p, kk, none⟩)) := hbc
      have hfn : fnP bx (kk + 1) = .func (.func 45) #[] #[.pointer (some ⟨bx (kk + 1), 0, none⟩)] := rfl
      have HLK := Lib.hid (fun (w' : World) (h : InKey W3.heap.size p wr.heap.size key W3 w') => (show (Instr.lookup 58 (.map (some m)) (.int .i64 key.1) false).run Try.prog w' = .ok (.func (.func 45) #[] #[.pointer (some ⟨bx (kk + 1), 0, none⟩)]) w' by
        have h1 := (HKI.out.grown h.1.grownBy (fun e => by have := Option.some.inj e; omega)).look (k := kk + 1) (by omega) (by omega)
        rw [← hfn, hkk]; exact h1))
      have HLB := Lib.hid (fun (w' : World) (h : InKey W3.heap.size p wr.heap.size key W3 w') => (show (Instr.lookup 60 (.map (some W1.heap.size)) (.agg (keyA key)) false).run Try.prog w' = .ok (.agg (factC (faX x).1 (faX x).2)) w' by
        have h1 := (HBM.out.keep h.1.grownBy (fun e => by have := Option.some.inj e; omega)).look key hin
        rw [hlook] at h1; exact h1))
      have hts : (faX x).2.size ≤ 281474976710656 := by have := okT_size (v := (faX x).1) (t := (faX x).2) hok; omega
      have HADD := Lib.hid (fun (w' : World) (hb : W3.heap.size ≤ w'.heap.size) (hB : BaseB w' W3.heap.size p (fun j => (lsK bst (ds.take k) j).map faX)) (hK : KeepB W3.heap.size p W3 w') =>
        add_calls kk hk10 W3.heap.size p (bx (kk + 1)) (by omega) hbb hbp (fun j => (lsK bst (ds.take k) j).map faX) (faX x) hts (by have := lsK_len bst (ds.take k) kk; rw [List.length_map]; rw [List.length_take] at this; omega) w' hb hB (hK.cell hbb hbp hbc2))
      clear hH2 hbc hbc2 hfn hlook hin hok hkx hkk hts hH hx hkey hbl hbb hbp
      generalize bx (kk + 1) = bxa at *
      go_upto_region 7 with (first
        | (refine wpList_load_keyAt rfl _ rfl _ _ rfl key HC0.out HC1.out HC2.out ?_)
        | (refine key_store rfl _ _ rfl wr.heap.size key rfl rfl _ (heap_new wr _) rfl ?_))
      obtain ⟨W7, hW7, f7, b7⟩ := box_new wr (keyA (0, 0, 0)) (keyA key) 41
      rw [show (wr.alloc (.cells #[.int .i64 0, .int .i64 0, .int .i64 0] 41)).setRow wr.heap.size (keyA key) = W7 from hW7]
      simp only [Act.put]
      have hC7 : InKey W3.heap.size p wr.heap.size key W3 W7 := ⟨HKe.out.below b7 hzr, f7, Nat.le_trans hzr b7.size⟩
      obtain ⟨vs, hS⟩ := HB.out
      have hS7 := hS.below b7
      refine wp_region_mixD (InKey W3.heap.size p wr.heap.size key W3) (fun w' => Below W7.heap.size W7 w') [true, true, true, true, true, true, true, false] (by kernel_rfl) (by kernel_rfl) (hC7.below ((Below.refl _ _).drew)) ((Below.refl _ _).drew) ?_
      intro w8 hC8 hD8
      have hS8 : BaseB w8 W3.heap.size p (fun j => (lsK bst (ds.take k) j).map faX) := ⟨vs, hS7.below hD8⟩
      clear hS7 hD8 hS hC7 b7 f7 hW7
      refine mix_val (.map (some m)) (by rfl) (fun _ _ => by first | rfl | (go_simp; done)) ?_
      simp only [Act.put, List.setIfInBounds_toArray, List.set_cons_zero, List.set_cons_succ]
      refine mix_val (.pointer (some ⟨wr.heap.size, 0, none⟩)) (by rfl) (fun _ _ => by first | rfl | (go_simp; done)) ?_
      simp only [Act.put, List.setIfInBounds_toArray, List.set_cons_zero, List.set_cons_succ]
      refine mix_load_int (by rfl) _ rfl ⟨wr.heap.size, 0, none⟩ rfl (.int .i64 key.1) (fun w' h => by rw [cell_of_row _ _ _ _ _ _ h.2.1]; rfl) ?_
      simp only [Act.put, List.setIfInBounds_toArray, List.set_cons_zero, List.set_cons_succ]
      refine mix_val (.func (.func 45) #[] #[.pointer (some ⟨bxa, 0, none⟩)]) (by rfl) (fun w' h => by have hl := HLK.out w' h; go_simp) ?_
      simp only [Act.put, List.setIfInBounds_toArray, List.set_cons_zero, List.set_cons_succ]
      refine mix_val (.map (some W1.heap.size)) (by rfl) (fun _ _ => by first | rfl | (go_simp; done)) ?_
      simp only [Act.put, List.setIfInBounds_toArray, List.set_cons_zero, List.set_cons_succ]
      refine mix_load_key (by rfl) _ rfl wr.heap.size rfl key (fun w' h => h.2.1) ?_
      simp only [Act.put, List.setIfInBounds_toArray, List.set_cons_zero, List.set_cons_succ]
      refine mix_val (.agg (factC (faX x).1 (faX x).2)) (by rfl) (fun w' h => by have hl := HLB.out w' h; go_simp) ?_
      simp only [Act.put, List.setIfInBounds_toArray, List.set_cons_zero, List.set_cons_succ]
      refine ⟨by rfl, wp_of_call 45 #[.agg (factC (faX x).1 (faX x).2), .pointer (some ⟨bxa, 0, none⟩)] (.tuple #[]) (fun w9 => BaseB w9 W3.heap.size p (fun j => if j = kk then (lsK bst (ds.take k) kk).map faX ++ [faX x] else (lsK bst (ds.take k) j).map faX) ∧ KeepB W3.heap.size p w8 w9) (by go_simp) (HADD.out w8 hC8.2.2 hS8 hC8.1) ?_⟩
      rintro w9 ⟨hB9, hK9⟩
      have hK39 := hC8.1.trans hK9
      have hkp : wr.heap.size ≠ p := by have := HKe.out.2.2.2.1; omega
      refine ⟨⟨hK39, hK9.row (by decide) hkp hC8.2.1, Nat.le_trans hC8.2.2 hK9.2.2.2.1⟩, ?_⟩
      simp only [Act.put, List.setIfInBounds_toArray, List.set_cons_zero, List.set_cons_succ]
      refine mix_done (P := Try.prog) (ops := #[]) (C := fun _ => True) ?_
      have HB9 := Lib.hid hB9
      have HK9 := Lib.hid hK39
      clear hB9 hK9 hK39 hC8 hS8 hkp HKe HB HC0 HC1 HC2 HLK HLB HADD
      go_wp2_with fail
      go_roundw
      case rel =>
        refine ⟨k + 1, by omega, by go_num, Lib.hid ?_, HK9⟩
        have e : (fun j => (lsK bst (ds.take (k + 1)) j).map faX) = (fun j => if j = kk then (lsK bst (ds.take k) kk).map faX ++ [faX x] else (lsK bst (ds.take k) j).map faX) := by
          funext j
          rw [hTK, HSN.out j]
          split <;> simp
        rw [e]; exact HB9.out
      case measure => simp [intOf]; omega
end Go.Proofs.Ytngkfopdlkddnaa
