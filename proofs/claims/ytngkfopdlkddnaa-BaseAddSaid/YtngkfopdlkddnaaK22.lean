/- FactsetLookups' plain side: what stands at one place of a set's lists; how rows of one's own lie; stores into them; steps of a drawn region over facts. | The contract of base.prevailing: a map of its own that holds, for each key of the valid facts, the one that prevails. -/
import Derived.Test.YtngkfopdlkddnaaProg
import Derived.Test.YtngkfopdlkddnaaK20
import Derived.Test.YtngkfopdlkddnaaK21
import Derived.Deep.MidRow
import Derived.Test.YtngkfopdlkddnaaK14
import Derived.Test.YtngkfopdlkddnaaK07
namespace Go.Proofs.Ytngkfopdlkddnaa
open Go Go.RowKit Go.Maps
theorem RowS.lays {w : World} {base : Nat} {v : Value} {l : List Bs} (h : RowS w base v l) : ∃ A cap, v = .slice A l.length cap ∧ l.length ≤ cap ∧ HS w A l ∧ (l = [] ∨ ∃ g, A = some ⟨g, 0, none⟩ ∧ base ≤ g ∧ w.there g 0 l.length) := by
  obtain ⟨A, c, e, hc, hs⟩ := RowS.slice h
  refine ⟨A, c, e, hc, Lib.hid hs, ?_⟩
  rcases h.2 with ⟨hv, hn⟩ | ⟨g, cap, cur, hv, hb, hg, hn, hm, hz, ht⟩
  · exact .inl (List.length_eq_zero_iff.1 hn)
  · rw [hv] at e
    injection e with e1 e2 e3
    refine .inr ⟨g, e1.symm, hb, fun j hj => ⟨?_, frozen_of_row _ _ _ _ _ hg⟩⟩
    rw [cell_of_row _ _ _ _ _ _ hg, Nat.zero_add, Array.getElem?_eq_getElem (show j < cur.size by omega)]
    rfl
theorem RowF.lays {w : World} {base : Nat} {v : Value} {fs : List OkF} (h : RowF w base v fs) : ∃ A cap, v = .slice A fs.length cap ∧ fs.length ≤ cap ∧ FactsS w A (fs.map (·.1)) ∧ (fs = [] ∨ ∃ g, A = some ⟨g, 0, none⟩ ∧ base ≤ g ∧ w.there g 0 (fs.length * 18)) := by
  obtain ⟨A, c, e, hc, hs⟩ := RowA.slice (RowF.rowA h)
  rw [List.length_map] at e hc
  refine ⟨A, c, e, hc, hs, ?_⟩
  rcases h.2 with ⟨hv, hn⟩ | ⟨g, cap, cur, hv, hb, hg, hn, hm, hz, ht⟩
  · exact .inl (List.length_eq_zero_iff.1 hn)
  · rw [hv] at e
    injection e with e1 e2 e3
    refine .inr ⟨g, e1.symm, hb, fun j hj => ⟨?_, frozen_of_row _ _ _ _ _ hg⟩⟩
    rw [cell_of_row _ _ _ _ _ _ hg, Nat.zero_add, Array.getElem?_eq_getElem (show j < cur.size by omega)]
    rfl
theorem there_part {w : World} {b n o m : Nat} (h : w.there b 0 n) (hm : o + m ≤ n) : w.there b o m := fun j hj => by
  have := h (o + j) (by omega)
  rwa [Nat.zero_add] at this
theorem there_keep {w w' : World} {b o n : Nat} (h : w.there b o n) (hb : Below w.heap.size w w') : w'.there b o n := fun j hj => by
  obtain ⟨h1, h2⟩ := h j hj
  obtain ⟨v, hv⟩ := Option.isSome_iff_exists.1 h1
  have hlt := lt_of_cell hv
  refine ⟨by rw [hb.cell hlt]; exact h1, by rw [World.frozen?_of_block (hb.block _ hlt)]; exact h2⟩
theorem grown_setCell6 (w : World) (a : Addr) (u : Value) : w.grownBy (w.setCell a u) (some a.block) :=
  ⟨rfl, rfl, rfl, by simp, fun k hk hne => by
    have : k ≠ a.block := fun e => hne (by rw [e])
    simp only [World.setCell]
    rw [Array.getElem?_modify, if_neg (fun e => this e.symm)]⟩
theorem asc_getL {l : List Bs} (h : l.Pairwise (fun a b => Op.bytesLess a b = true)) {i j : Nat} (hij : i < j) (hj : j < l.length) : Op.bytesLess (l.getD i []) (l.getD j []) = true := by
  have h1 := List.pairwise_iff_getElem.1 h i j (by omega) hj hij
  rw [List.getD_eq_getElem?_getD, List.getD_eq_getElem?_getD, List.getElem?_eq_getElem hj, List.getElem?_eq_getElem (show i < l.length by omega)]; exact h1
theorem ls_not {X Y : Bs} (h : Op.bytesLess X Y = true) : Op.bytesLess Y X = false ∧ (Y == X) = false := by
  constructor
  · cases hb : Op.bytesLess Y X with
    | false => rfl
    | true => exact absurd (ls_trans h hb) (by rw [ls_irr]; decide)
  · rw [beq_eq_false_iff_ne]
    rintro rfl
    rw [ls_irr] at h; cases h
theorem mem_take_succ {l : List Bs} {x : Bs} {j : Nat} (hj : j < l.length) : x ∈ l.take (j + 1) ↔ x ∈ l.take j ∨ l.getD j [] = x := by
  rw [List.take_add_one, List.getElem?_eq_getElem hj, List.mem_append, List.getD_eq_getElem?_getD, List.getElem?_eq_getElem hj]
  simp only [Option.toList_some, List.mem_singleton, Option.getD_some]
  exact ⟨fun h => h.imp id Eq.symm, fun h => h.imp id Eq.symm⟩
section
variable {P : Program} {ops : Array Oper} {C : World → Prop} {Q : Exit → Act → World → Prop}
theorem wp_region_mixM {id : Nat} {a : Act} {w : World} {l : List Oper} (C : World → Prop) (bs : List Bool) (hm : P.follows .mixedOrders = true) (hB : (Region.noSelect l.toArray && (decide (bs.length = l.length) && mixB .any l.toArray bs 0 (Array.replicate l.toArray.size false))) = true)
    (hC : C { w with drawn := w.drawn + 1 }) (h : ∀ w', C w' → wpMix P l.toArray (NoPanic Q) C bs l a w') : (Code.region id l.toArray true).wp P Q a w :=
  wp_region_mix C bs hm hB hC (h _ hC)
end
section
variable {ops : Array Oper} {C : World → Prop} {Q : Exit → Act → World → Prop}
theorem mix_load_at {o : Oper} {l : List Oper} {bs : List Bool} {a : Act} {w : World} (hw : Region.wanted o (yielded ops a.tmps) = true) (x : Operand) (ho : o.op = .load 29 x) (b k : Nat) (hx : a.eval x = .pointer (some ⟨b, k, none⟩)) (v : Nat → Int) (t : ByteArray)
    (hv : ∀ w', C w' → ∀ j x, (factC v t)[j]? = some x → w'.cell? ⟨b, k + j, none⟩ = some x) (h : wpMix Try.prog ops Q C bs l (a.put o.dst (.agg (factC v t))) w) : wpMix Try.prog ops Q C (true :: bs) (o :: l) a w :=
  mix_val _ hw (fun w' hc => by
    unfold execOp
    simp only [ho, hx, Instr.loadAt, Instr.sureAddr, Sem.run_bind, Sem.run_pure, Result.andThen_ok, run_load_at w' b k v t (hv w' hc)]) h
theorem mix_neF {o : Oper} {l : List Oper} {bs : List Bool} {a : Act} {w : World} (hw : Region.wanted o (yielded ops a.tmps) = true) (x y : Operand) (t2 : TypeId) (ho : o.op = .binOp .neq 29 x y t2) (f : Fa) (hx : a.eval x = .agg (factC f.1 f.2)) (hy : a.eval y = .agg (factC f.1 f.2))
    (h : wpMix Try.prog ops Q C bs l (a.put o.dst (.bool false)) w) : wpMix Try.prog ops Q C (true :: bs) (o :: l) a w :=
  mix_val (.bool false) hw (fun w' _ => by
    have hl := runNe f f w'
    rw [(eqB_val f f).2 rfl] at hl
    generalize factC f.1 f.2 = c1 at *
    have he : (eqGuard .neq 29 x y (.agg c1) (.agg c1)).run Try.prog w' = .ok () w' := by
      simp [eqGuard]
    unfold execOp
    simp only [ho, hx, hy, hl, he, Sem.run_bind, Sem.run_pure, Result.andThen_ok, Bool.not_true]) h
end
end Go.Proofs.Ytngkfopdlkddnaa
namespace Go.Proofs.Ytngkfopdlkddnaa
open Go Go.RowKit Go.Maps
theorem infoK : (Try.prog.info? 41).map (·.size) = some 3 := by kernel_rfl
def keyA (k : K3) : Array Value := #[.int .i64 k.1, .int .i64 k.2.1, .int .i64 k.2.2]
theorem keyC_eq (k : K3) : keyC k = .agg (keyA k) := rfl
theorem oneK (k : K3) : (keyA k).all (·.oneCell') = true := by simp [keyA, Value.oneCell']
theorem wpList_load_key {ops : Array Oper} {rest : List Oper} {o : Oper} {a : Act} {w : World} {Q : Exit → Act → World → Prop} (hw : Region.wanted o (yielded ops a.tmps) = true) (x : Operand) (ho : o.op = .load 41 x)
    (g : Nat) (hx : a.eval x = .pointer (some ⟨g, 0, none⟩)) (k : K3) (hg : w.heap[g]? = some (.cells (keyA k) 41 (0, 0)))
    (h : wpList Try.prog ops Q rest (a.put o.dst (.agg (keyA k))) w) : wpList Try.prog ops Q (o :: rest) a w :=
  wpList_step fun _ hK => by
    rw [if_pos hw]
    exact wp_load_row 41 x ho g hx 41 (keyA k) (0, 0) _ hg Try.underlying41 rfl infoK (hK _ _ h)
theorem key_store {ops : Array Oper} {rest : List Oper} {o : Oper} {a : Act} {w : World} {Q : Exit → Act → World → Prop} (hgd : o.guard = none) (x y : Operand) (ho : o.op = .store 41 x y) (g : Nat) (k : K3) (hx : a.eval x = .pointer (some ⟨g, 0, none⟩)) (hy : a.eval y = .agg (keyA k))
    (old : Array Value) (hg : w.heap[g]? = some (.cells old 41 (0, 0))) (hold : old.size = 3) (h : wpList Try.prog ops Q rest (a.put o.dst undef) (w.setRow g (keyA k))) : wpList Try.prog ops Q (o :: rest) a w :=
  wpList_store_row hgd 41 x y ho g (keyA k) hx hy 41 old hg infoK (hold.trans rfl) (oneK k) h
/-- A box of one's own. -/
theorem box_new (w : World) (c0 c : Array Value) (T : TypeId) : ∃ WD, (w.alloc (.cells c0 T)).setRow w.heap.size c = WD ∧ WD.heap[w.heap.size]? = some (.cells c T (0, 0)) ∧ Below w.heap.size w WD :=
  ⟨_, rfl, setRow_heap _ _ _ _ _ _ (heap_new w _), below_setRow' ((Below.refl _ w).alloc (Nat.le_refl _) _) _ _ (Nat.le_refl _)⟩
theorem look_val {m : List Fx} {es : List Ent} (h : BestP m es) {k : K3} (hk : InK k) : (bestX m k = none ∧ hasE es (kb k) = false ∧ lookE es (kb k) = .agg (factC zeroA.1 zeroA.2)) ∨ ∃ y, bestX m k = some y ∧ hasE es (kb k) = true ∧ lookE es (kb k) = .agg (factC (faX y).1 (faX y).2) := by
  have hg := h.2.1 k hk
  unfold hasE lookE
  cases hb : bestX m k with
  | none => rw [hb] at hg; rw [hg]; exact .inl ⟨rfl, rfl, rfl⟩
  | some y => rw [hb] at hg; rw [hg]; exact .inr ⟨y, rfl, rfl, rfl⟩
theorem take_nf {l : List Fa} {k : Nat} (h : k < l.length) : (l.take (k + 1)).map nfX = (l.take k).map nfX ++ [nfX (l.getD k zeroA)] := by
  rw [List.take_succ_eq_append_getElem h, List.map_append, List.getD_eq_getElem?_getD, List.getElem?_eq_getElem h]
  rfl
set_option maxRecDepth 100000 in
set_option maxHeartbeats 8000000 in
theorem prevailing_calls (A : Option Addr) (l : List Fa) (cap : Nat) (w : World) (hA : FactsS w A l) (hl : l.length ≤ 100000) :
    Calls Try.prog 27 #[.slice A l.length cap] w fun e W' => e = .returned (.map (some w.heap.size)) ∧ (∃ es, BMap W' w.heap.size es ∧ BestP (l.map nfX) es) ∧ Below w.heap.size w W' := by
  have hmm := @run_makeMap Try.prog
  have HA := Lib.hid hA
  clear hA
  have hal : Below w.heap.size w (w.alloc (.map #[] 0)) := (Below.refl _ w).alloc (Nat.le_refl _) _
  have hM0 : BMap (w.alloc (.map #[] 0)) w.heap.size [] := BMap.of (n := 0) (World.ownsMap_made _ _ _ _)
  have HM0 := Lib.hid hM0
  have HB0 := Lib.hid hal
  clear hal hM0
  go_enter Try.func27, Try.ntmps27
  go_upto_region 3 with (fail)
  go_loopw [12] (fun iv wr => ∃ (k : Nat) (es : List Ent), k ≤ l.length ∧ iv = .int .i64 k ∧ Hid (BMap wr w.heap.size es) ∧ Hid (BestP ((l.take k).map nfX) es) ∧ Hid (Below w.heap.size w wr)) (fun iv _ => l.length - (intOf iv).toNat)
  case atStart => exact ⟨0, [], by omega, rfl, HM0, Lib.hid bestP_nil, HB0⟩
  case round =>
    clear HM0 HB0
    obtain ⟨k, es, hk, rfl, M, BP, B⟩ := hrel
    have k0 : (0 : Int) ≤ (k : Int) := by omega
    by_cases hlt : k < l.length
    rotate_left
    · obtain rfl : k = l.length := by omega
      have k1 : (l.length : Int) ≤ (l.length : Int) := by omega
      have hfin := BP.out
      rw [List.take_of_length_le (Nat.le_refl _)] at hfin
      have HFI := Lib.hid hfin
      clear hfin hmm BP
      go_wp2_with fail
      go_ret
      exact ⟨rfl, ⟨es, M.out, HFI.out⟩, B.out⟩
    · have k1 : (k : Int) < (l.length : Int) := by omega
      rcases HA.out with hz | ⟨g, o, rfl, hst⟩
      · rw [hz] at hlt; exact absurd hlt (by simp)
      have HAT := Lib.hid ((hst.keep B.out) k hlt)
      have HTK := Lib.hid (take_nf hlt)
      have hlen : es.length < maxLen := by have := BP.out.2.2.2; rw [List.length_map, List.length_take] at this; unfold maxLen; omega
      clear hst
      generalize l.getD k zeroA = f at *
      obtain ⟨v, t⟩ := f
      generalize (l.take k).map nfX = m at *
      have HV := Lib.hid (nf_cells (v, t))
      have hone := factC_one v t
      go_upto_region 5 with (first | (refine wpList_load_at rfl _ rfl _ _ rfl v t HAT.out ?_) | (refine wpList_store_row rfl 29 _ _ rfl wr.heap.size (factC v t) rfl rfl 29 (factC (fun _ => 0) ⟨#[]⟩) (heap_new wr _) (hiC _ _) rfl hone ?_))
      obtain ⟨W5, hW5, f5, b5⟩ := box_new wr (factC (fun _ => 0) ⟨#[]⟩) (factC v t) 29
      rw [hW5]
      have F5 := Lib.hid f5
      have B5 := Lib.hid b5
      clear hW5 f5 b5 HAT
      have B6 := Lib.hid (B.out.trans (B5.out.mono B.out.size))
      replace M := Lib.hid (M.out.below B5.out)
      have hbz : w.heap.size < W5.heap.size := World.ownsMap.lt M.out
      clear B B5 hone
      generalize wr.heap.size = fb at *
      cases hv : okT v t with
      | false =>
        have HVc := Lib.hid (fun W => Valid_eq v t false hv W)
        have HBad := Lib.hid (fun (h : okX (nfX (v, t)) = false) => BP.out.bad h)
        have hok : okX (nfX (v, t)) = false := (ok_nf (v, t)).trans hv
        go_wp2_with (refine wpList_load_fact rfl _ rfl fb rfl v t F5.out ?_)
        refine (HVc.out _).mono ?_
        rintro e W6 ⟨rfl, b6⟩
        go_wp2_with fail
        go_roundw
        case rel => exact ⟨k + 1, es, by omega, by go_num, Lib.hid (M.out.below b6), Lib.hid (by rw [HTK.out]; exact HBad.out hok), Lib.hid (B6.out.trans (b6.mono B6.out.size))⟩
        case measure => simp [intOf]; omega
      | true =>
        have HVc := Lib.hid (fun W => Valid_eq v t true hv W)
        have HKc := Lib.hid (fun W => Key_calls v t W)
        go_wp2_with (refine wpList_load_fact rfl _ rfl fb rfl v t F5.out ?_)
        refine (HVc.out _).mono ?_
        rintro e W6 ⟨rfl, b6⟩
        replace F5 := Lib.hid ((b6.block _ (Array.getElem?_eq_some_iff.1 F5.out).1).trans F5.out)
        replace M := Lib.hid (M.out.below b6)
        replace B6 := Lib.hid (B6.out.trans (b6.mono B6.out.size))
        clear b6 HVc
        go_wp2_with (refine wpList_load_fact rfl _ rfl fb rfl v t F5.out ?_)
        refine (HKc.out _).mono ?_
        rintro e W7 ⟨rfl, b7⟩
        replace F5 := Lib.hid ((b7.block _ (Array.getElem?_eq_some_iff.1 F5.out).1).trans F5.out)
        replace M := Lib.hid (M.out.below b7)
        replace B6 := Lib.hid (B6.out.trans (b7.mono B6.out.size))
        clear b7 HKc
        have hok : okX (nfX (v, t)) = true := (ok_nf (v, t)).trans hv
        have hky := key_nf (v, t)
        have hin := ok_inK hok
        rw [hky] at hin
        have HPUT := Lib.hid (fun (hp : ∀ y, bestX m (keyX (nfX (v, t))) = some y → pvX (nfX (v, t)) y = true) => BP.out.put hok hp)
        have HWRS := Lib.hid (fun y (hy : bestX m (keyX (nfX (v, t))) = some y) (hp : pvX (nfX (v, t)) y = false) => BP.out.worse hok hy hp)
        rw [hky] at HPUT HWRS
        have hpv := pv_nf (v, t)
        have hval : valX (nfX (v, t)) = .agg (factC v t) := nf_val (v, t)
        rw [hval] at HPUT
        have HPV := Lib.hid hpv
        have hlk := look_val BP.out hin
        have HIN := Lib.hid hin
        have HASC := Lib.hid BP.out.1
        clear hok hky hin hpv hval BP HV hv
        go_upto_region 7 with (fail)
        obtain ⟨W8, hW8, f6, b8⟩ : ∃ WD, W7.alloc (.cells #[.int .i64 (v 0), .int .i64 (kyF v).1, .int .i64 (kyF v).2] 41) = WD ∧ WD.heap[W7.heap.size]? = some (.cells (keyA (v 0, kyF v)) 41 (0, 0)) ∧ Below W7.heap.size W7 WD := ⟨_, rfl, heap_new W7 _, (Below.refl _ W7).alloc (Nat.le_refl _) _⟩
        rw [hW8]
        clear hW8
        generalize (v 0, kyF v) = kk at *
        have F6 := Lib.hid f6
        replace F5 := Lib.hid ((b8.block _ (Array.getElem?_eq_some_iff.1 F5.out).1).trans F5.out)
        replace M := Lib.hid (M.out.below b8)
        replace B6 := Lib.hid (B6.out.trans (b8.mono B6.out.size))
        clear f6 b8
        generalize W7.heap.size = fk at *
        have hl := M.out.look_ok kk HIN.out
        rcases hlk with ⟨hno, hb, hR⟩ | ⟨y, hy, hb, hR⟩
        · rw [hb, hR] at hl
          have hl2 : (Instr.lookup 60 (.map (some w.heap.size)) (.agg (keyA kk)) true).run Try.prog W8 = .ok (.tuple #[.agg (factC (fun _ => 0) ⟨#[]⟩), .bool false]) W8 := hl
          clear hl hb hR
          have hone := factC_one (fun _ => 0) ⟨#[]⟩
          have HNO := Lib.hid hno
          clear hno
          go_upto_region 8 with (first | (refine wpList_load_key rfl _ rfl fk rfl kk F6.out ?_) | (refine wpList_store_row rfl 29 _ _ rfl W8.heap.size (factC (fun _ => 0) ⟨#[]⟩) rfl rfl 29 (factC (fun _ => 0) ⟨#[]⟩) (heap_new W8 _) (hiC _ _) rfl hone ?_))
          obtain ⟨W9, hW9, f7, b9⟩ := box_new W8 (factC (fun _ => 0) ⟨#[]⟩) (factC (fun _ => 0) ⟨#[]⟩) 29
          rw [hW9]
          have F7 := Lib.hid f7
          replace F5 := Lib.hid ((b9.block _ (Array.getElem?_eq_some_iff.1 F5.out).1).trans F5.out)
          replace F6 := Lib.hid ((b9.block _ (Array.getElem?_eq_some_iff.1 F6.out).1).trans F6.out)
          replace M := Lib.hid (M.out.below b9)
          replace B6 := Lib.hid (B6.out.trans (b9.mono B6.out.size))
          clear hW9 f7 b9 hl2 hone
          generalize W8.heap.size = fr at *
          obtain ⟨W10, hrun, hM, hg⟩ := M.out.store HASC.out hlen kk HIN.out (.agg (factC v t))
          have hrun2 : (Instr.mapUpdate 60 (.map (some w.heap.size)) (.agg (keyA kk)) (.agg (factC v t))).run Try.prog W9 = .ok () W10 := hrun
          clear hrun
          go_wp2_with (first | (refine wpList_load_key rfl _ rfl fk rfl kk F6.out ?_) | (refine wpList_load_fact rfl _ rfl fb rfl v t F5.out ?_))
          go_roundw
          case rel => exact ⟨k + 1, _, by omega, by go_num, Lib.hid hM, Lib.hid (by rw [HTK.out]; exact HPUT.out (fun y hy => by rw [HNO.out] at hy; cases hy)), Lib.hid (B6.out.grown hg B6.out.size (fun j e => by cases e; exact Nat.le_refl _))⟩
          case measure => simp [intOf]; omega
        · rw [hb, hR] at hl
          have hl2 : (Instr.lookup 60 (.map (some w.heap.size)) (.agg (keyA kk)) true).run Try.prog W8 = .ok (.tuple #[.agg (factC (faX y).1 (faX y).2), .bool true]) W8 := hl
          clear hl hb hR
          have HY := Lib.hid hy
          clear hy
          have HPY := Lib.hid (HPV.out y)
          have HPY2 := Lib.hid (fun (h : pvX (nfX (v, t)) y = false) => HWRS.out y HY.out h)
          generalize hfy : faX y = fy at *
          obtain ⟨v2, t2⟩ := fy
          have hone := factC_one v2 t2
          go_upto_region 8 with (first | (refine wpList_load_key rfl _ rfl fk rfl kk F6.out ?_) | (refine wpList_store_row rfl 29 _ _ rfl W8.heap.size (factC v2 t2) rfl rfl 29 (factC (fun _ => 0) ⟨#[]⟩) (heap_new W8 _) (hiC _ _) rfl hone ?_))
          obtain ⟨W9, hW9, f7, b9⟩ := box_new W8 (factC (fun _ => 0) ⟨#[]⟩) (factC v2 t2) 29
          rw [hW9]
          have F7 := Lib.hid f7
          replace F5 := Lib.hid ((b9.block _ (Array.getElem?_eq_some_iff.1 F5.out).1).trans F5.out)
          replace F6 := Lib.hid ((b9.block _ (Array.getElem?_eq_some_iff.1 F6.out).1).trans F6.out)
          replace M := Lib.hid (M.out.below b9)
          replace B6 := Lib.hid (B6.out.trans (b9.mono B6.out.size))
          clear hW9 f7 b9 hl2 hone
          generalize W8.heap.size = fr at *
          cases hc : pvB v t v2 t2 with
          | true =>
            have HPc := Lib.hid (fun W => Prevails_eq v v2 t t2 true hc W)
            go_wp2_with (first | (refine wpList_load_fact rfl _ rfl fb rfl v t F5.out ?_) | (refine wpList_load_fact rfl _ rfl fr rfl v2 t2 F7.out ?_))
            refine (HPc.out _).mono ?_
            rintro e Wp ⟨rfl, bp⟩
            replace F5 := Lib.hid ((bp.block _ (Array.getElem?_eq_some_iff.1 F5.out).1).trans F5.out)
            replace F6 := Lib.hid ((bp.block _ (Array.getElem?_eq_some_iff.1 F6.out).1).trans F6.out)
            replace M := Lib.hid (M.out.below bp)
            replace B6 := Lib.hid (B6.out.trans (bp.mono B6.out.size))
            clear bp HPc F7
            obtain ⟨W10, hrun, hM, hg⟩ := M.out.store HASC.out hlen kk HIN.out (.agg (factC v t))
            have hrun2 : (Instr.mapUpdate 60 (.map (some w.heap.size)) (.agg (keyA kk)) (.agg (factC v t))).run Try.prog Wp = .ok () W10 := hrun
            clear hrun
            have HC := Lib.hid hc
            clear hc
            go_wp2_with (first | (refine wpList_load_key rfl _ rfl fk rfl kk F6.out ?_) | (refine wpList_load_fact rfl _ rfl fb rfl v t F5.out ?_))
            go_roundw
            case rel =>
              exact ⟨k + 1, _, by omega, by go_num, Lib.hid hM, Lib.hid (by rw [HTK.out]; exact HPUT.out (fun y2 hy2 => by rw [HY.out] at hy2; obtain rfl := Option.some.inj hy2; rw [HPV.out, hfy]; exact HC.out)), Lib.hid (B6.out.grown hg B6.out.size (fun j e => by cases e; exact Nat.le_refl _))⟩
            case measure => simp [intOf]; omega
          | false =>
            have HPc := Lib.hid (fun W => Prevails_eq v v2 t t2 false hc W)
            have HC := Lib.hid hc
            clear hc
            go_wp2_with (first | (refine wpList_load_fact rfl _ rfl fb rfl v t F5.out ?_) | (refine wpList_load_fact rfl _ rfl fr rfl v2 t2 F7.out ?_))
            refine (HPc.out _).mono ?_
            rintro e Wp ⟨rfl, bp⟩
            clear HPc
            go_wp2_with fail
            go_roundw
            case rel =>
              exact ⟨k + 1, _, by omega, by go_num, Lib.hid (M.out.below bp), Lib.hid (by rw [HTK.out]; exact HPY2.out (by rw [HPV.out, hfy]; exact HC.out)), Lib.hid (B6.out.trans (bp.mono B6.out.size))⟩
            case measure => simp [intOf]; omega
end Go.Proofs.Ytngkfopdlkddnaa
