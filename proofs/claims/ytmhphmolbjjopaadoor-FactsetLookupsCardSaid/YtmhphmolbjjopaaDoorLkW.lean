/- The walk of FactsetLookups. -/
import Derived.Test.YtmhphmolbjjopaaDoorSne
import Derived.Test.YtmhphmolbjjopaaDoorLkp
import Derived.Test.YtmhphmolbjjopaaDoorPtp
namespace Go.Proofs.YtmhphmolbjjopaaDoor
open Go.RowKit Go.Maps
set_option maxRecDepth 100000 in
set_option maxHeartbeats 8000000 in
theorem look_walk (A : Option Addr) (l : List Fa) (cap : Nat) (id : ByteArray) (w : World) (hK : Konst w) (_hc : l.length ≤ cap) (hl : l.length ≤ 9223372036854775807) (hA : FactsS w A l) (hx : ∀ f ∈ l, FaR f)
    (_hmz : id.size ≤ 281474976710656) (hmz2 : id.size ≤ maxLen) :
    Calls Tryd.prog 7 #[.slice A l.length cap, .string id] w fun e W' => e = .returned (.bool true) ∧ Below w.heap.size w W' := by
  have HSA := Lib.hid (sane_calls w hK)
  have CX := Lib.hid (fun W (hb : Below w.heap.size w W) => cut_calls l A cap W (hA.keep hb) hl (fun f hf => (hx f hf).2))
  have HK := Lib.hid (fun W (hb : Below w.heap.size w W) => hK.keep hb)
  clear hK hA hx hl _hc
  have lX := cutL_length l
  generalize cutL l = X at *
  obtain ⟨il, rfl⟩ : ∃ il : List UInt8, id = ⟨il.toArray⟩ := ⟨id.data.toList, (mk_eta id).symm⟩
  go_enter Tryd.func7, Tryd.ntmps7
  go_wp2_with fail
  refine HSA.out.mono ?_
  rintro e W1 ⟨rfl, b1⟩
  have B := Lib.hid b1
  clear b1 HSA
  go_wp2_with fail
  refine (CX.out W1 B.out).mono ?_
  rintro e W2 ⟨vc, rfl, hrow, b3⟩
  obtain ⟨Ac, cc, rfl, hcc, hst⟩ := RowA.slice hrow
  replace B := Lib.hid (B.out.trans (b3.mono B.out.size))
  clear b3 hrow
  go_wp2_with fail
  refine (of_calls X Ac cc W2 (HK.out _ B.out) hst (by omega)).mono ?_
  rintro e W3 ⟨ps, bs, rfl, hS, -, -, b3⟩
  replace B := Lib.hid (B.out.trans (b3.mono B.out.size))
  clear b3 hst hcc
  have HX := Lib.hid lX
  have hn : (ofL X).length ≤ 25 := Nat.le_trans (ofL_le X) lX
  clear lX
  have hG := good_of X
  obtain ⟨fs, hfs⟩ := facts_list hG.2.1
  rw [hfs] at hS hG hn
  have Hfs := Lib.hid hfs
  clear hfs
  have S := Lib.hid hS
  clear hS
  rw [List.length_map] at hn
  go_wp2_with fail
  have hw3 : w.heap.size ≤ W3.heap.size := B.out.size
  have hbs3 : bs < W3.heap.size := S.out.ltb
  have hps3 : ps < W3.heap.size := S.out.ltp
  refine (IDs_calls (some ⟨ps, 0, none⟩) (fs.map entF) W3 (.inr ⟨ps, bs, rfl, S.out, hG⟩)).mono ?_
  rintro e W4 ⟨lv, rfl, hrow, b3⟩
  have hKl : (idsE (fs.map entF)).length = fs.length := by unfold idsE; rw [List.length_map, List.length_map]
  obtain ⟨AI, cI, rfl, hcI, KS, TI0⟩ := RowS.lays (l := idsE (fs.map entF)) hrow
  rw [hKl] at hcI TI0 ⊢
  have HTI := Lib.hid TI0
  replace S := Lib.hid (S.out.below b3)
  replace B := Lib.hid (B.out.trans (b3.mono B.out.size))
  clear b3 hrow TI0
  have hw4 : w.heap.size ≤ W4.heap.size := B.out.size
  go_wp2_with fail
  refine (Facts_calls (some ⟨ps, 0, none⟩) fs W4 (.inr ⟨ps, bs, rfl, S.out, hG⟩)).mono ?_
  rintro e W5 ⟨lv, rfl, hrow, b3⟩
  obtain ⟨AF, cF, rfl, hcF, hfS, TF0⟩ := RowF.lays hrow
  have hbsl : bs < W4.heap.size := S.out.ltb
  have hpsl : ps < W4.heap.size := S.out.ltp
  have HTF := Lib.hid TF0
  have FS := Lib.hid hfS
  replace KS := KS.keep b3
  replace S := Lib.hid (S.out.below b3)
  have HTI5 : Hid (idsE (fs.map entF) = [] ∨ ∃ g, AI = some ⟨g, 0, none⟩ ∧ W3.heap.size ≤ g ∧ W5.there g 0 fs.length) := Lib.hid (HTI.out.imp (fun h => h) (fun ⟨g, e, h1, h2⟩ => ⟨g, e, h1, there_keep h2 b3⟩))
  replace HTI := HTI5
  clear HTI5
  replace B := Lib.hid (B.out.trans (b3.mono B.out.size))
  clear b3 hrow TF0 hfS
  have hln := fun W hS => Len_calls ps bs (fs.map entF) W hS
  rw [List.length_map] at hln
  have HLN := Lib.hid hln
  clear hln
  go_wp2_with fail
  refine (HLN.out _ S.out).mono ?_
  rintro e W' ⟨rfl, rfl⟩
  go_wp2_with fail
  refine (HLN.out _ S.out).mono ?_
  rintro e W' ⟨rfl, rfl⟩
  clear HLN
  have HAT := Lib.hid (fun i (hi : i < fs.length) => at_fact hG.1 hi)
  have HAS := Lib.hid (ids_asc hG.1)
  have HHA := Lib.hid (ids_has hG.1 il)
  have hLl : (fs.map (·.1)).length = fs.length := List.length_map ..
  have HNIL := Lib.hid (show fs = [] → fs.length = 0 from fun h => by rw [h]; rfl)
  have HKN := Lib.hid (show idsE (fs.map entF) = [] → fs.length = 0 from fun h => by rw [← hKl, h]; rfl)
  have HFN := Lib.hid (show fs.map (·.1) = [] → fs.length = 0 from fun h => by rw [← hLl, h]; rfl)
  generalize fs.map entF = es at *
  generalize idsE es = K at *
  generalize (fs.map (·.1)) = L at *
  have HKl := Lib.hid hKl
  have HLl := Lib.hid hLl
  clear hKl hLl
  generalize fs.length = n at *
  go_upto_region 9 with (fail)
  go_loopw [9, 10] (fun cv iv wr => ∃ (i : Nat) (c : Bool), i ≤ n ∧ iv = .int .i64 i ∧ cv = .bool c ∧ Hid (c = true ↔ il ∈ K.take i) ∧ Hid (Below W5.heap.size W5 wr)) (fun _ iv _ => n - (intOf iv).toNat)
  case atStart => exact ⟨0, false, by omega, rfl, rfl, Lib.hid (by simp), Lib.hid (Below.refl _ _)⟩
  case round =>
    obtain ⟨i, c, hi, rfl, rfl, HC, D⟩ := hrel
    have i0 : 0 ≤ (i : Int) := by omega
    by_cases hlt : i < n
    · have i1 : (i : Int) < (n : Int) := by omega
      rcases Hid.out KS with hz | ⟨gI, oI, rfl, hsK⟩
      · exact absurd (HKN.out hz) (by omega)
      rcases FS.out with hz | ⟨gF, oF, rfl, hsF⟩
      · exact absurd (HFN.out hz) (by omega)
      obtain ⟨hok, hki, hge⟩ := HAT.out i hlt
      have HCK : Hid (∀ W, Below W5.heap.size W5 W → ∀ j, j < n → W.cell? ⟨gI, oI + j, none⟩ = some (.string ⟨(K.getD j []).toArray⟩)) := Lib.hid (fun W hb j hj => (StrsAt.keep hsK hb) j (by rw [HKl.out]; exact hj))
      have HCF : Hid (∀ W, Below W5.heap.size W5 W → ∀ j x, (factC (L.getD i zeroA).1 (L.getD i zeroA).2)[j]? = some x → W.cell? ⟨gF, oF + i * 18 + j, none⟩ = some x) := Lib.hid (fun W hb => (hsF.keep hb) i (by rw [HLl.out]; exact hlt))
      have HST := Lib.hid (fun (h : K.getD i [] = il) => (mem_take_succ (l := K) (x := il) (by rw [HKl.out]; exact hlt)).2 (.inr h))
      have HSN := Lib.hid (mem_take_succ (l := K) (x := il) (j := i) (by rw [HKl.out]; exact hlt))
      have HLE := Lib.hid (fun j (hj : j < i) => ls_not (asc_getL HAS.out hj (by rw [HKl.out]; exact hlt)))
      clear hsK hsF
      generalize hf : L.getD i zeroA = f at *
      clear hf
      obtain ⟨v, t⟩ := f
      have hkl : (K.getD i []).length = 32 := by rw [hki]; rfl
      have e1 : idF v t = K.getD i [] := by unfold idF; rw [show okT v t = true from hok, hki]; rfl
      have e2 : errF v t = 0 := by unfold errF; rw [show okT v t = true from hok]; rfl
      have htz : t.size ≤ 65536 := good_text hok
      have HID := Lib.hid (fun W hk => ID_calls v t W hk)
      rw [e1, e2] at HID
      clear e1 e2
      have hd : (⟨(K.getD i []).toArray⟩ : ByteArray).data.toList = K.getD i [] := by simp
      have hh : hasE es (K.getD i []) = true := by unfold hasE; rw [hki, hge]; rfl
      have hv : lookE es (K.getD i []) = valF (v, t) := by unfold lookE; rw [hki, hge]; rfl
      have HGS := Lib.hid (fun W hS => Get_some ps bs es ⟨(K.getD i []).toArray⟩ W v t hS hG.2.1 (by show (K.getD i []).length ≤ maxLen; rw [hkl]; decide) (by rw [hd]; exact hh) (by rw [hd]; exact hv) (by omega))
      clear hok hki hge hd hh hv htz
      have c1 := HCK.out wr D.out i hlt
      have HCX := Lib.hid (fun W hb => HCK.out W hb i hlt)
      generalize hX : K.getD i [] = X at *
      clear hX
      go_wp2_with (refine wpList_load_at rfl _ rfl _ _ rfl v t (HCF.out wr D.out) ?_)
      refine (HID.out _ (HK.out _ (B.out.trans (D.out.mono B.out.size)))).mono ?_
      rintro e W6 ⟨rfl, b3⟩
      replace D := Lib.hid (D.out.trans (b3.mono D.out.size))
      clear b3 c1
      have c1 := (HCX.out W6 D.out)
      go_wp2_with fail
      refine (HGS.out _ (S.out.below D.out)).mono ?_
      rintro e W7 ⟨rfl, b3⟩
      replace D := Lib.hid (D.out.trans (b3.mono D.out.size))
      clear b3 c1 HID HGS
      have hone := factC_one v t
      go_upto_region 13 with (refine wpList_store_row rfl 33 _ _ rfl W7.heap.size (factC v t) rfl rfl 33 (factC (fun _ => 0) ⟨#[]⟩) (heap_new W7 _) (hiC _ _) rfl hone ?_)
      obtain ⟨W8, hWD, f1, b3⟩ : ∃ WD, (W7.alloc (.cells (factC (fun _ => 0) ⟨#[]⟩) 33)).setRow W7.heap.size (factC v t) = WD ∧ WD.heap[W7.heap.size]? = some (.cells (factC v t) 33 (0, 0)) ∧ Below W7.heap.size W7 WD :=
        ⟨_, rfl, setRow_heap _ _ _ _ _ _ (heap_new W7 _), below_setRow' ((Below.refl _ W7).alloc (Nat.le_refl _) _) _ _ (Nat.le_refl _)⟩
      rw [hWD]
      clear hWD hone
      replace D := Lib.hid (D.out.trans (b3.mono D.out.size))
      have F1 := Lib.hid f1
      clear f1 b3
      generalize W7.heap.size = fb at *
      rcases Nat.eq_zero_or_pos i with hi0 | hi0
      · have k2 : ¬ (0 : Int) < (i : Int) := by omega
        clear hi0
        try simp only [List.append_eq, List.cons_append, List.nil_append]
        refine wp_region_mixM (fun w' => Below W8.heap.size W8 w') [true, true, true, true, true, true, true, true, true, true, true, true, true, true, true, true, true, true, true, true, true, true, true, true, true, true, true, true, true, true, true, true, true, true, true, true, true, true, true, true, true, true, true] (by kernel_rfl) (by kernel_rfl) (Below.drew (Below.refl _ _)) ?_
        intro w0 hC0
        refine mix_val (.int .i64 0) (by rfl) (fun _ _ => by first | rfl | (go_simp; done) | (go_simp; omega)) ?_
        simp only [Act.put, List.setIfInBounds_toArray, List.set_cons_zero, List.set_cons_succ]
        refine mix_val (.bool false) (by rfl) (fun _ _ => by first | rfl | (go_simp; done) | (go_simp; omega)) ?_
        simp only [Act.put, List.setIfInBounds_toArray, List.set_cons_zero, List.set_cons_succ]
        refine mix_val (.bool false) (by rfl) (fun _ _ => by first | rfl | (go_simp; done) | (go_simp; omega)) ?_
        simp only [Act.put, List.setIfInBounds_toArray, List.set_cons_zero, List.set_cons_succ]
        refine mix_val (.string ⟨X.toArray⟩) (by rfl) (fun _ _ => by first | rfl | (go_simp; done) | (go_simp; omega)) ?_
        simp only [Act.put, List.setIfInBounds_toArray, List.set_cons_zero, List.set_cons_succ]
        refine mix_val (.slice (some ⟨gI, oI, none⟩) n cI) (by rfl) (fun _ _ => by first | rfl | (go_simp; done) | (go_simp; omega)) ?_
        simp only [Act.put, List.setIfInBounds_toArray, List.set_cons_zero, List.set_cons_succ]
        refine mix_val (.int .i64 (i : Int)) (by rfl) (fun _ _ => by first | rfl | (go_simp; done) | (go_simp; omega)) ?_
        simp only [Act.put, List.setIfInBounds_toArray, List.set_cons_zero, List.set_cons_succ]
        refine mix_val (.pointer (some ⟨gI, oI + i, none⟩)) (by rfl) (fun _ _ => by first | rfl | (go_simp; done) | (go_simp; omega)) ?_
        simp only [Act.put, List.setIfInBounds_toArray, List.set_cons_zero, List.set_cons_succ]
        refine mix_load_str (by rfl) _ rfl ⟨gI, oI + i, none⟩ rfl (.string ⟨X.toArray⟩) (fun w' hc => HCX.out w' (D.out.trans (Below.mono hc D.out.size))) ?_
        simp only [Act.put, List.setIfInBounds_toArray, List.set_cons_zero, List.set_cons_succ]
        refine mix_val (.bool false) (by rfl) (fun _ _ => by first | rfl | (go_simp; done) | (go_simp; omega)) ?_
        simp only [Act.put, List.setIfInBounds_toArray, List.set_cons_zero, List.set_cons_succ]
        refine mix_val (.bool false) (by rfl) (fun _ _ => by first | rfl | (go_simp; done) | (go_simp; omega)) ?_
        simp only [Act.put, List.setIfInBounds_toArray, List.set_cons_zero, List.set_cons_succ]
        refine mix_val (.bool false) (by rfl) (fun _ _ => by first | rfl | (go_simp; done) | (go_simp; omega)) ?_
        simp only [Act.put, List.setIfInBounds_toArray, List.set_cons_zero, List.set_cons_succ]
        refine mix_val (.bool true) (by rfl) (fun _ _ => by first | rfl | (go_simp; done) | (go_simp; omega)) ?_
        simp only [Act.put, List.setIfInBounds_toArray, List.set_cons_zero, List.set_cons_succ]
        refine mix_val (.bool false) (by rfl) (fun _ _ => by first | rfl | (go_simp; done) | (go_simp; omega)) ?_
        simp only [Act.put, List.setIfInBounds_toArray, List.set_cons_zero, List.set_cons_succ]
        refine mix_val (.bool false) (by rfl) (fun _ _ => by first | rfl | (go_simp; done) | (go_simp; omega)) ?_
        simp only [Act.put, List.setIfInBounds_toArray, List.set_cons_zero, List.set_cons_succ]
        refine mix_val (.bool false) (by rfl) (fun _ _ => by first | rfl | (go_simp; done) | (go_simp; omega)) ?_
        simp only [Act.put, List.setIfInBounds_toArray, List.set_cons_zero, List.set_cons_succ]
        refine mix_load_fact (by rfl) _ rfl fb rfl v t (fun w' hc => (hc.block _ (Array.getElem?_eq_some_iff.1 F1.out).1).trans F1.out) ?_
        simp only [Act.put, List.setIfInBounds_toArray, List.set_cons_zero, List.set_cons_succ]
        refine mix_val (.slice (some ⟨gF, oF, none⟩) n cF) (by rfl) (fun _ _ => by first | rfl | (go_simp; done) | (go_simp; omega)) ?_
        simp only [Act.put, List.setIfInBounds_toArray, List.set_cons_zero, List.set_cons_succ]
        refine mix_val (.int .i64 (i : Int)) (by rfl) (fun _ _ => by first | rfl | (go_simp; done) | (go_simp; omega)) ?_
        simp only [Act.put, List.setIfInBounds_toArray, List.set_cons_zero, List.set_cons_succ]
        refine mix_val (.pointer (some ⟨gF, oF + i * 18, none⟩)) (by rfl) (fun _ _ => by first | rfl | (go_simp; done) | (go_simp; omega)) ?_
        simp only [Act.put, List.setIfInBounds_toArray, List.set_cons_zero, List.set_cons_succ]
        refine mix_load_at (by rfl) _ rfl gF (oF + i * 18) rfl v t (fun w' hc => HCF.out w' (D.out.trans (Below.mono hc D.out.size))) ?_
        simp only [Act.put, List.setIfInBounds_toArray, List.set_cons_zero, List.set_cons_succ]
        refine mix_neF (by rfl) _ _ _ rfl (v, t) rfl rfl ?_
        simp only [Act.put, List.setIfInBounds_toArray, List.set_cons_zero, List.set_cons_succ]
        refine mix_val (.bool false) (by rfl) (fun _ _ => by first | rfl | (go_simp; done) | (go_simp; omega)) ?_
        simp only [Act.put, List.setIfInBounds_toArray, List.set_cons_zero, List.set_cons_succ]
        refine mix_val (.bool false) (by rfl) (fun _ _ => by first | rfl | (go_simp; done) | (go_simp; omega)) ?_
        simp only [Act.put, List.setIfInBounds_toArray, List.set_cons_zero, List.set_cons_succ]
        refine mix_val (.string ⟨X.toArray⟩) (by rfl) (fun _ _ => by first | rfl | (go_simp; done) | (go_simp; omega)) ?_
        simp only [Act.put, List.setIfInBounds_toArray, List.set_cons_zero, List.set_cons_succ]
        refine mix_val (.int .i64 32) (by rfl) (fun _ _ => by first | rfl | (go_simp; done) | (go_simp; omega)) ?_
        simp only [Act.put, List.setIfInBounds_toArray, List.set_cons_zero, List.set_cons_succ]
        refine mix_val (.bool false) (by rfl) (fun _ _ => by first | rfl | (go_simp; done) | (go_simp; omega)) ?_
        simp only [Act.put, List.setIfInBounds_toArray, List.set_cons_zero, List.set_cons_succ]
        refine mix_val (.bool false) (by rfl) (fun _ _ => by first | rfl | (go_simp; done) | (go_simp; omega)) ?_
        simp only [Act.put, List.setIfInBounds_toArray, List.set_cons_zero, List.set_cons_succ]
        refine mix_val (.bool false) (by rfl) (fun _ _ => by first | rfl | (go_simp; done) | (go_simp; omega)) ?_
        simp only [Act.put, List.setIfInBounds_toArray, List.set_cons_zero, List.set_cons_succ]
        refine mix_val (.int .i64 (i : Int)) (by rfl) (fun _ _ => by first | rfl | (go_simp; done) | (go_simp; omega)) ?_
        simp only [Act.put, List.setIfInBounds_toArray, List.set_cons_zero, List.set_cons_succ]
        refine mix_val (.bool false) (by rfl) (fun _ _ => by first | rfl | (go_simp; done) | (go_simp; omega)) ?_
        simp only [Act.put, List.setIfInBounds_toArray, List.set_cons_zero, List.set_cons_succ]
        refine mix_val (.bool false) (by rfl) (fun _ _ => by first | rfl | (go_simp; done) | (go_simp; omega)) ?_
        simp only [Act.put, List.setIfInBounds_toArray, List.set_cons_zero, List.set_cons_succ]
        refine mix_off (by rfl) ?_
        simp only [Act.put, List.setIfInBounds_toArray, List.set_cons_zero, List.set_cons_succ]
        refine mix_off (by rfl) ?_
        simp only [Act.put, List.setIfInBounds_toArray, List.set_cons_zero, List.set_cons_succ]
        refine mix_off (by rfl) ?_
        simp only [Act.put, List.setIfInBounds_toArray, List.set_cons_zero, List.set_cons_succ]
        refine mix_off (by rfl) ?_
        simp only [Act.put, List.setIfInBounds_toArray, List.set_cons_zero, List.set_cons_succ]
        refine mix_off (by rfl) ?_
        simp only [Act.put, List.setIfInBounds_toArray, List.set_cons_zero, List.set_cons_succ]
        refine mix_off (by rfl) ?_
        simp only [Act.put, List.setIfInBounds_toArray, List.set_cons_zero, List.set_cons_succ]
        refine mix_off (by rfl) ?_
        simp only [Act.put, List.setIfInBounds_toArray, List.set_cons_zero, List.set_cons_succ]
        refine mix_off (by rfl) ?_
        simp only [Act.put, List.setIfInBounds_toArray, List.set_cons_zero, List.set_cons_succ]
        refine mix_off (by rfl) ?_
        simp only [Act.put, List.setIfInBounds_toArray, List.set_cons_zero, List.set_cons_succ]
        refine mix_off (by rfl) ?_
        simp only [Act.put, List.setIfInBounds_toArray, List.set_cons_zero, List.set_cons_succ]
        refine mix_val (.bool false) (by rfl) (fun _ _ => by first | rfl | (go_simp; done) | (go_simp; omega)) ?_
        simp only [Act.put, List.setIfInBounds_toArray, List.set_cons_zero, List.set_cons_succ]
        refine mix_val (.bool false) (by rfl) (fun _ _ => by first | rfl | (go_simp; done) | (go_simp; omega)) ?_
        simp only [Act.put, List.setIfInBounds_toArray, List.set_cons_zero, List.set_cons_succ]
        refine mix_done (P := Tryd.prog) (ops := #[]) (C := fun _ => True) ?_
        replace D := Lib.hid (D.out.trans (Below.mono hC0 D.out.size))
        clear hC0 F1
        go_upto_region 15 with (fail)
        cases c with
        | true =>
          go_wp2_with fail
          go_roundw
          case rel => exact ⟨i + 1, true, by omega, by go_num, rfl, Lib.hid ⟨fun _ => HSN.out.2 (.inl (HC.out.1 rfl)), fun _ => rfl⟩, D⟩
          case measure => simp [intOf]; omega
        | false =>
          have c1 := HCX.out _ D.out
          cases heq : X == il with
          | true =>
            go_wp2_with fail
            go_roundw
            case rel => exact ⟨i + 1, true, by omega, by go_num, by first | rfl | rw [heq], Lib.hid ⟨fun _ => HSN.out.2 (.inr (by simpa using heq)), fun _ => rfl⟩, D⟩
            case measure => simp [intOf]; omega
          | false =>
            go_wp2_with fail
            go_roundw
            case rel => exact ⟨i + 1, false, by omega, by go_num, by first | rfl | rw [heq], Lib.hid ⟨fun h => by (cases h), fun h => (HSN.out.1 h).elim (fun h => HC.out.2 h) (fun h => by rw [h] at heq; simp at heq)⟩, D⟩
            case measure => simp [intOf]; omega
      · have k2 : (0 : Int) < (i : Int) := by omega
        obtain ⟨j, hj⟩ : ∃ j, j + 1 = i := ⟨i - 1, by omega⟩
        have HCY := Lib.hid (fun W hb => HCK.out W hb j (by omega))
        have hle := HLE.out j (by omega)
        generalize K.getD j [] = Y at *
        obtain ⟨hl1, hl2⟩ := hle
        have q0 : 0 ≤ (i : Int) - 1 := by omega
        have q1 : (i : Int) - 1 < (n : Int) := by omega
        have q2 : ((i : Int) - 1).toNat = j := by omega
        have q3 : IntKind.i64.wrap ((i : Int) - 1) = (i : Int) - 1 := IntWalk.i64_in _ (by omega)
        try simp only [List.append_eq, List.cons_append, List.nil_append]
        refine wp_region_mixM (fun w' => Below W8.heap.size W8 w') [true, true, true, true, true, true, true, true, true, true, true, true, true, true, true, true, true, true, true, true, true, true, true, true, true, true, true, true, true, true, true, true, true, true, true, true, true, true, true, true, true, true, true] (by kernel_rfl) (by kernel_rfl) (Below.drew (Below.refl _ _)) ?_
        intro w0 hC0
        refine mix_val (.int .i64 0) (by rfl) (fun _ _ => by first | rfl | (go_simp; done) | (go_simp; omega)) ?_
        simp only [Act.put, List.setIfInBounds_toArray, List.set_cons_zero, List.set_cons_succ]
        refine mix_val (.bool false) (by rfl) (fun _ _ => by first | rfl | (go_simp; done) | (go_simp; omega)) ?_
        simp only [Act.put, List.setIfInBounds_toArray, List.set_cons_zero, List.set_cons_succ]
        refine mix_val (.bool false) (by rfl) (fun _ _ => by first | rfl | (go_simp; done) | (go_simp; omega)) ?_
        simp only [Act.put, List.setIfInBounds_toArray, List.set_cons_zero, List.set_cons_succ]
        refine mix_val (.string ⟨X.toArray⟩) (by rfl) (fun _ _ => by first | rfl | (go_simp; done) | (go_simp; omega)) ?_
        simp only [Act.put, List.setIfInBounds_toArray, List.set_cons_zero, List.set_cons_succ]
        refine mix_val (.slice (some ⟨gI, oI, none⟩) n cI) (by rfl) (fun _ _ => by first | rfl | (go_simp; done) | (go_simp; omega)) ?_
        simp only [Act.put, List.setIfInBounds_toArray, List.set_cons_zero, List.set_cons_succ]
        refine mix_val (.int .i64 (i : Int)) (by rfl) (fun _ _ => by first | rfl | (go_simp; done) | (go_simp; omega)) ?_
        simp only [Act.put, List.setIfInBounds_toArray, List.set_cons_zero, List.set_cons_succ]
        refine mix_val (.pointer (some ⟨gI, oI + i, none⟩)) (by rfl) (fun _ _ => by first | rfl | (go_simp; done) | (go_simp; omega)) ?_
        simp only [Act.put, List.setIfInBounds_toArray, List.set_cons_zero, List.set_cons_succ]
        refine mix_load_str (by rfl) _ rfl ⟨gI, oI + i, none⟩ rfl (.string ⟨X.toArray⟩) (fun w' hc => HCX.out w' (D.out.trans (Below.mono hc D.out.size))) ?_
        simp only [Act.put, List.setIfInBounds_toArray, List.set_cons_zero, List.set_cons_succ]
        refine mix_val (.bool false) (by rfl) (fun _ _ => by first | rfl | (go_simp; done) | (go_simp; omega)) ?_
        simp only [Act.put, List.setIfInBounds_toArray, List.set_cons_zero, List.set_cons_succ]
        refine mix_val (.bool false) (by rfl) (fun _ _ => by first | rfl | (go_simp; done) | (go_simp; omega)) ?_
        simp only [Act.put, List.setIfInBounds_toArray, List.set_cons_zero, List.set_cons_succ]
        refine mix_val (.bool false) (by rfl) (fun _ _ => by first | rfl | (go_simp; done) | (go_simp; omega)) ?_
        simp only [Act.put, List.setIfInBounds_toArray, List.set_cons_zero, List.set_cons_succ]
        refine mix_val (.bool true) (by rfl) (fun _ _ => by first | rfl | (go_simp; done) | (go_simp; omega)) ?_
        simp only [Act.put, List.setIfInBounds_toArray, List.set_cons_zero, List.set_cons_succ]
        refine mix_val (.bool false) (by rfl) (fun _ _ => by first | rfl | (go_simp; done) | (go_simp; omega)) ?_
        simp only [Act.put, List.setIfInBounds_toArray, List.set_cons_zero, List.set_cons_succ]
        refine mix_val (.bool false) (by rfl) (fun _ _ => by first | rfl | (go_simp; done) | (go_simp; omega)) ?_
        simp only [Act.put, List.setIfInBounds_toArray, List.set_cons_zero, List.set_cons_succ]
        refine mix_val (.bool false) (by rfl) (fun _ _ => by first | rfl | (go_simp; done) | (go_simp; omega)) ?_
        simp only [Act.put, List.setIfInBounds_toArray, List.set_cons_zero, List.set_cons_succ]
        refine mix_load_fact (by rfl) _ rfl fb rfl v t (fun w' hc => (hc.block _ (Array.getElem?_eq_some_iff.1 F1.out).1).trans F1.out) ?_
        simp only [Act.put, List.setIfInBounds_toArray, List.set_cons_zero, List.set_cons_succ]
        refine mix_val (.slice (some ⟨gF, oF, none⟩) n cF) (by rfl) (fun _ _ => by first | rfl | (go_simp; done) | (go_simp; omega)) ?_
        simp only [Act.put, List.setIfInBounds_toArray, List.set_cons_zero, List.set_cons_succ]
        refine mix_val (.int .i64 (i : Int)) (by rfl) (fun _ _ => by first | rfl | (go_simp; done) | (go_simp; omega)) ?_
        simp only [Act.put, List.setIfInBounds_toArray, List.set_cons_zero, List.set_cons_succ]
        refine mix_val (.pointer (some ⟨gF, oF + i * 18, none⟩)) (by rfl) (fun _ _ => by first | rfl | (go_simp; done) | (go_simp; omega)) ?_
        simp only [Act.put, List.setIfInBounds_toArray, List.set_cons_zero, List.set_cons_succ]
        refine mix_load_at (by rfl) _ rfl gF (oF + i * 18) rfl v t (fun w' hc => HCF.out w' (D.out.trans (Below.mono hc D.out.size))) ?_
        simp only [Act.put, List.setIfInBounds_toArray, List.set_cons_zero, List.set_cons_succ]
        refine mix_neF (by rfl) _ _ _ rfl (v, t) rfl rfl ?_
        simp only [Act.put, List.setIfInBounds_toArray, List.set_cons_zero, List.set_cons_succ]
        refine mix_val (.bool false) (by rfl) (fun _ _ => by first | rfl | (go_simp; done) | (go_simp; omega)) ?_
        simp only [Act.put, List.setIfInBounds_toArray, List.set_cons_zero, List.set_cons_succ]
        refine mix_val (.bool false) (by rfl) (fun _ _ => by first | rfl | (go_simp; done) | (go_simp; omega)) ?_
        simp only [Act.put, List.setIfInBounds_toArray, List.set_cons_zero, List.set_cons_succ]
        refine mix_val (.string ⟨X.toArray⟩) (by rfl) (fun _ _ => by first | rfl | (go_simp; done) | (go_simp; omega)) ?_
        simp only [Act.put, List.setIfInBounds_toArray, List.set_cons_zero, List.set_cons_succ]
        refine mix_val (.int .i64 32) (by rfl) (fun _ _ => by first | rfl | (go_simp; done) | (go_simp; omega)) ?_
        simp only [Act.put, List.setIfInBounds_toArray, List.set_cons_zero, List.set_cons_succ]
        refine mix_val (.bool false) (by rfl) (fun _ _ => by first | rfl | (go_simp; done) | (go_simp; omega)) ?_
        simp only [Act.put, List.setIfInBounds_toArray, List.set_cons_zero, List.set_cons_succ]
        refine mix_val (.bool false) (by rfl) (fun _ _ => by first | rfl | (go_simp; done) | (go_simp; omega)) ?_
        simp only [Act.put, List.setIfInBounds_toArray, List.set_cons_zero, List.set_cons_succ]
        refine mix_val (.bool false) (by rfl) (fun _ _ => by first | rfl | (go_simp; done) | (go_simp; omega)) ?_
        simp only [Act.put, List.setIfInBounds_toArray, List.set_cons_zero, List.set_cons_succ]
        refine mix_val (.int .i64 (i : Int)) (by rfl) (fun _ _ => by first | rfl | (go_simp; done) | (go_simp; omega)) ?_
        simp only [Act.put, List.setIfInBounds_toArray, List.set_cons_zero, List.set_cons_succ]
        refine mix_val (.bool true) (by rfl) (fun _ _ => by first | rfl | (go_simp; done) | (go_simp; omega)) ?_
        simp only [Act.put, List.setIfInBounds_toArray, List.set_cons_zero, List.set_cons_succ]
        refine mix_val (.bool true) (by rfl) (fun _ _ => by first | rfl | (go_simp; done) | (go_simp; omega)) ?_
        simp only [Act.put, List.setIfInBounds_toArray, List.set_cons_zero, List.set_cons_succ]
        refine mix_val (.slice (some ⟨gI, oI, none⟩) n cI) (by rfl) (fun _ _ => by first | rfl | (go_simp; done) | (go_simp; omega)) ?_
        simp only [Act.put, List.setIfInBounds_toArray, List.set_cons_zero, List.set_cons_succ]
        refine mix_val (.int .i64 (i : Int)) (by rfl) (fun _ _ => by first | rfl | (go_simp; done) | (go_simp; omega)) ?_
        simp only [Act.put, List.setIfInBounds_toArray, List.set_cons_zero, List.set_cons_succ]
        refine mix_val (.pointer (some ⟨gI, oI + i, none⟩)) (by rfl) (fun _ _ => by first | rfl | (go_simp; done) | (go_simp; omega)) ?_
        simp only [Act.put, List.setIfInBounds_toArray, List.set_cons_zero, List.set_cons_succ]
        refine mix_load_str (by rfl) _ rfl ⟨gI, oI + i, none⟩ rfl (.string ⟨X.toArray⟩) (fun w' hc => HCX.out w' (D.out.trans (Below.mono hc D.out.size))) ?_
        simp only [Act.put, List.setIfInBounds_toArray, List.set_cons_zero, List.set_cons_succ]
        refine mix_val (.slice (some ⟨gI, oI, none⟩) n cI) (by rfl) (fun _ _ => by first | rfl | (go_simp; done) | (go_simp; omega)) ?_
        simp only [Act.put, List.setIfInBounds_toArray, List.set_cons_zero, List.set_cons_succ]
        refine mix_val (.int .i64 (i : Int)) (by rfl) (fun _ _ => by first | rfl | (go_simp; done) | (go_simp; omega)) ?_
        simp only [Act.put, List.setIfInBounds_toArray, List.set_cons_zero, List.set_cons_succ]
        refine mix_val (.int .i64 ((i : Int) - 1)) (by rfl) (fun _ _ => by first | rfl | (go_simp; done) | (go_simp; omega)) ?_
        simp only [Act.put, List.setIfInBounds_toArray, List.set_cons_zero, List.set_cons_succ]
        refine mix_val (.pointer (some ⟨gI, oI + j, none⟩)) (by rfl) (fun _ _ => by first | rfl | (go_simp; done) | (go_simp; omega)) ?_
        simp only [Act.put, List.setIfInBounds_toArray, List.set_cons_zero, List.set_cons_succ]
        refine mix_load_str (by rfl) _ rfl ⟨gI, oI + j, none⟩ rfl (.string ⟨Y.toArray⟩) (fun w' hc => HCY.out w' (D.out.trans (Below.mono hc D.out.size))) ?_
        simp only [Act.put, List.setIfInBounds_toArray, List.set_cons_zero, List.set_cons_succ]
        refine mix_val (.bool false) (by rfl) (fun _ _ => by first | rfl | (go_simp; done) | (go_simp; omega)) ?_
        simp only [Act.put, List.setIfInBounds_toArray, List.set_cons_zero, List.set_cons_succ]
        refine mix_val (.bool false) (by rfl) (fun _ _ => by first | rfl | (go_simp; done) | (go_simp; omega)) ?_
        simp only [Act.put, List.setIfInBounds_toArray, List.set_cons_zero, List.set_cons_succ]
        refine mix_val (.bool false) (by rfl) (fun _ _ => by first | rfl | (go_simp; done) | (go_simp; omega)) ?_
        simp only [Act.put, List.setIfInBounds_toArray, List.set_cons_zero, List.set_cons_succ]
        refine mix_done (P := Tryd.prog) (ops := #[]) (C := fun _ => True) ?_
        replace D := Lib.hid (D.out.trans (Below.mono hC0 D.out.size))
        clear hC0 F1
        clear q0 q1 q2 q3 hl1 hl2 HCY
        go_upto_region 15 with (fail)
        cases c with
        | true =>
          go_wp2_with fail
          go_roundw
          case rel => exact ⟨i + 1, true, by omega, by go_num, rfl, Lib.hid ⟨fun _ => HSN.out.2 (.inl (HC.out.1 rfl)), fun _ => rfl⟩, D⟩
          case measure => simp [intOf]; omega
        | false =>
          have c1 := HCX.out _ D.out
          cases heq : X == il with
          | true =>
            go_wp2_with fail
            go_roundw
            case rel => exact ⟨i + 1, true, by omega, by go_num, by first | rfl | rw [heq], Lib.hid ⟨fun _ => HSN.out.2 (.inr (by simpa using heq)), fun _ => rfl⟩, D⟩
            case measure => simp [intOf]; omega
          | false =>
            go_wp2_with fail
            go_roundw
            case rel => exact ⟨i + 1, false, by omega, by go_num, by first | rfl | rw [heq], Lib.hid ⟨fun h => by (cases h), fun h => (HSN.out.1 h).elim (fun h => HC.out.2 h) (fun h => by rw [h] at heq; simp at heq)⟩, D⟩
            case measure => simp [intOf]; omega
    · obtain rfl : i = n := by omega
      have i1 : (i : Int) ≤ (i : Int) := by omega
      clear hlt hi
      obtain ⟨WC, hWC⟩ : ∃ WC, WC = wr := ⟨_, rfl⟩
      subst hWC
      replace S := Lib.hid (S.out.below D.out)
      replace B := Lib.hid (B.out.trans (Below.mono D.out B.out.size))
      have hTI : Hid (K = [] ∨ ∃ g, AI = some ⟨g, 0, none⟩ ∧ W3.heap.size ≤ g ∧ WC.there g 0 i) := Lib.hid (HTI.out.imp (fun h => h) (fun ⟨g, e, h1, h2⟩ => ⟨g, e, h1, there_keep h2 D.out⟩))
      have hTF : Hid (fs = [] ∨ ∃ g, AF = some ⟨g, 0, none⟩ ∧ W4.heap.size ≤ g ∧ WC.there g 0 (i * 18)) := Lib.hid (HTF.out.imp (fun h => h) (fun ⟨g, e, h1, h2⟩ => ⟨g, e, h1, there_keep h2 D.out⟩))
      replace HTI := hTI
      replace HTF := hTF
      have h1 := HC.out
      rw [List.take_of_length_le (by rw [HKl.out]; exact Nat.le_refl _)] at h1
      have h2 := HHA.out
      have hd : (⟨il.toArray⟩ : ByteArray).data.toList = il := by simp
      have HGC := Lib.hid (fun W hS => Get_calls ps bs es ⟨il.toArray⟩ W hS hG.2.1 hmz2)
      have HHC := Lib.hid (fun W hS => Has_calls ps bs es ⟨il.toArray⟩ W hS hG.2.1 hmz2)
      rw [hd] at HGC HHC
      clear HC HHA D KS FS hd HAT HAS
      cases hh : hasE es il with
      | false =>
        obtain rfl : c = false := by
          cases c with
          | false => rfl
          | true => exact absurd (h2.1 (h1.1 rfl)) (by rw [hh]; decide)
        clear h1 h2
        have hv := has_look hh
        rw [hh, hv] at HGC
        rw [hh] at HHC
        clear hv hh
        go_wp2_with fail
        have hget := HGC.out _ S.out
        change Calls _ _ _ _ (fun e W' => e = .returned (.tuple #[.agg (factC zeroA.1 zeroA.2), .bool false]) ∧ _) at hget
        refine (hget).mono ?_
        rintro e W9 ⟨rfl, b3⟩
        have D := Lib.hid b3
        clear b3 HGC hget
        have hone := factC_one zeroA.1 zeroA.2
        go_upto_region 17 with (refine wpList_store_row rfl 33 _ _ rfl W9.heap.size (factC zeroA.1 zeroA.2) rfl rfl 33 (factC (fun _ => 0) ⟨#[]⟩) (heap_new W9 _) (hiC _ _) rfl hone ?_)
        obtain ⟨W10, hWD, f1, b3⟩ : ∃ WD, (W9.alloc (.cells (factC (fun _ => 0) ⟨#[]⟩) 33)).setRow W9.heap.size (factC zeroA.1 zeroA.2) = WD ∧ WD.heap[W9.heap.size]? = some (.cells (factC zeroA.1 zeroA.2) 33 (0, 0)) ∧ Below W9.heap.size W9 WD :=
          ⟨_, rfl, setRow_heap _ _ _ _ _ _ (heap_new W9 _), below_setRow' ((Below.refl _ W9).alloc (Nat.le_refl _) _) _ _ (Nat.le_refl _)⟩
        rw [hWD]
        clear hWD hone
        replace D := Lib.hid (D.out.trans (b3.mono D.out.size))
        have F1 := Lib.hid f1
        clear f1 b3
        generalize W9.heap.size = fb at *
        go_wp2_with fail
        refine (HHC.out _ (S.out.below D.out)).mono ?_
        rintro e W11 ⟨rfl, b3⟩
        replace F1 := Lib.hid ((b3.block _ (Array.getElem?_eq_some_iff.1 F1.out).1).trans F1.out)
        replace D := Lib.hid (D.out.trans (b3.mono D.out.size))
        clear b3 HHC
        replace S := Lib.hid (S.out.below D.out)
        replace B := Lib.hid (B.out.trans (Below.mono D.out B.out.size))
        have hTI : Hid (K = [] ∨ ∃ g, AI = some ⟨g, 0, none⟩ ∧ W3.heap.size ≤ g ∧ W11.there g 0 i) := Lib.hid (HTI.out.imp (fun h => h) (fun ⟨g, e, h1, h2⟩ => ⟨g, e, h1, there_keep h2 D.out⟩))
        have hTF : Hid (fs = [] ∨ ∃ g, AF = some ⟨g, 0, none⟩ ∧ W4.heap.size ≤ g ∧ W11.there g 0 (i * 18)) := Lib.hid (HTF.out.imp (fun h => h) (fun ⟨g, e, h1, h2⟩ => ⟨g, e, h1, there_keep h2 D.out⟩))
        replace HTI := hTI
        replace HTF := hTF
        clear D
        have hq : ∀ W, (binOp .neq 33 (.agg (factC zeroA.1 zeroA.2)) (.agg (factC (fun _ => 0) ⟨#[]⟩))).run Tryd.prog W = .ok (.bool false) W := fun W => by
          have h := runNe zeroA zeroA W
          rw [(eqB_val zeroA zeroA).2 rfl] at h
          exact h
        go_upto_region 19 with (refine wpList_load_fact rfl _ rfl fb rfl zeroA.1 zeroA.2 F1.out ?_)
        go_upto_region 20 with (fail)
        go_loopw [17] (fun jv wr => ∃ j : Nat, j ≤ i ∧ jv = .int .i64 j ∧ Hid (SetAt wr ps bs es) ∧ Hid (Below w.heap.size w wr) ∧ Hid (∀ g, AI = some ⟨g, 0, none⟩ → wr.there g 0 i) ∧ Hid (∀ g, AF = some ⟨g, 0, none⟩ → wr.there g 0 (i * 18))) (fun jv _ => i - (intOf jv).toNat)
        case atStart =>
          refine ⟨0, by omega, rfl, S, B, Lib.hid (fun g e => ?_), Lib.hid (fun g e => ?_)⟩
          · rcases HTI.out with h | ⟨g2, e2, _, h3⟩
            · rw [HKN.out h]; exact fun j hj => absurd hj (Nat.not_lt_zero j)
            · rw [e] at e2; cases e2; exact h3
          · rcases HTF.out with h | ⟨g2, e2, _, h3⟩
            · rw [HNIL.out h]; exact fun j hj => absurd hj (by omega)
            · rw [e] at e2; cases e2; exact h3
        case round =>
          clear S B
          obtain ⟨j, hj, rfl, S, B, RI, RF⟩ := hrel
          have j0 : 0 ≤ (j : Int) := by omega
          by_cases hlt : j < i
          · have j1 : (j : Int) < (i : Int) := by omega
            rcases HTI.out with hz | ⟨gI, rfl, hgI, -⟩
            · exact absurd (HKN.out hz) (by omega)
            rcases HTF.out with hz | ⟨gF, rfl, hgF, -⟩
            · exact absurd (HNIL.out hz) (by omega)
            have t1 := RI.out gI rfl
            have t2 := RF.out gF rfl
            obtain ⟨cv, c1⟩ : ∃ v, wr.cell? ⟨gI, j, none⟩ = some v := by have h := (t1 j hlt).1; rw [Nat.zero_add] at h; exact Option.isSome_iff_exists.1 h
            have z1 : wr.frozen? ⟨gI, j, none⟩ = false := by have h := (t1 j hlt).2; rwa [Nat.zero_add] at h
            obtain ⟨Wx, hWx⟩ : ∃ Wx, wr.setCell ⟨gI, j, none⟩ (.string ⟨#[120]⟩) = Wx := ⟨_, rfl⟩
            have g1 : wr.grownBy Wx (some gI) := by rw [← hWx]; exact grown_setCell6 wr ⟨gI, j, none⟩ _
            have t1x : Wx.there gI 0 i := by rw [← hWx]; exact World.there_setCells t1 gI j [.string ⟨#[120]⟩]
            have t2x : Wx.there gF 0 (i * 18) := by rw [← hWx]; exact World.there_setCells t2 gI j [.string ⟨#[120]⟩]
            have t3 := there_part (o := j * 18) (m := 18) t2x (by omega)
            have hwg : w.heap.size ≤ gI := Nat.le_trans hw3 hgI
            have hwf : w.heap.size ≤ gF := Nat.le_trans hw4 hgF
            replace S := Lib.hid (S.out.keep g1 (fun e => by have := Option.some.inj e; omega) (fun e => by have := Option.some.inj e; omega))
            replace B := Lib.hid (B.out.grown g1 B.out.size (fun q e => by cases e; exact hwg))
            clear t1 t2 RI RF
            have T1 := Lib.hid t1x
            have T2 := Lib.hid t2x
            have T3 := Lib.hid t3
            have G1 := Lib.hid g1
            have HWx := Lib.hid hWx
            clear t1x t2x t3 g1 hWx
            go_upto_region 23 with (fail)
            rw [HWx.out]
            clear c1 z1 HWx
            obtain ⟨Wy, hWy⟩ : ∃ Wy, Wx.setCells gF (j * 18) (factC (fun _ => 0) ⟨#[]⟩).toList = Wy := ⟨_, rfl⟩
            have g2 : Wx.grownBy Wy (some gF) := by rw [← hWy]; exact grown_setCells6 gF _ _ _
            have T1y := Lib.hid (show Wy.there gI 0 i by rw [← hWy]; exact World.there_setCells T1.out gF _ _)
            have T2y := Lib.hid (show Wy.there gF 0 (i * 18) by rw [← hWy]; exact World.there_setCells T2.out gF _ _)
            replace S := Lib.hid (S.out.keep g2 (fun e => by have := Option.some.inj e; omega) (fun e => by have := Option.some.inj e; omega))
            replace B := Lib.hid (B.out.grown g2 B.out.size (fun q e => by cases e; exact hwf))
            have hone := factC_one (fun _ => 0) ⟨#[]⟩
            have hic := hiC (fun _ => 0) ⟨#[]⟩
            clear g2 T1 T2
            go_wp2_with (refine wpList_store_mid rfl 33 _ _ rfl gF (j * 18) (factC (fun _ => 0) ⟨#[]⟩) rfl rfl T3.out hic hone ?_)
            go_roundw
            case rel => exact ⟨j + 1, by omega, by go_num, S, B, Lib.hid (fun g e => by cases e; exact T1y.out), Lib.hid (fun g e => by cases e; exact T2y.out)⟩
            case measure => simp [intOf]; omega
          · obtain rfl : j = i := by omega
            have j1 : (j : Int) ≤ (j : Int) := by omega
            clear hlt hj HTI HTF RI RF
            go_wp2_with fail
            refine (CX.out _ B.out).mono ?_
            rintro e W17 ⟨vc, rfl, hrow, b3⟩
            obtain ⟨Ad, cd, rfl, hcd, hst⟩ := RowA.slice hrow
            replace S := Lib.hid (S.out.below b3)
            replace B := Lib.hid (B.out.trans (b3.mono B.out.size))
            clear b3 hrow
            go_wp2_with fail
            refine (of_calls _ Ad cd W17 (HK.out _ B.out) hst (by have := HX.out; omega)).mono ?_
            rintro e W18 ⟨pt, bt, rfl, hS2, -, -, b3⟩
            rw [Hfs.out] at hS2
            replace S := Lib.hid (S.out.below b3)
            replace B := Lib.hid (B.out.trans (b3.mono B.out.size))
            clear b3 hst
            go_wp2_with fail
            refine (same_sets ps bs pt bt es es W18 (HK.out _ B.out) S.out hS2 hG hG).mono ?_
            rintro e W19 ⟨c9, rfl, hc9, b3⟩
            obtain rfl := hc9 rfl
            replace B := Lib.hid (B.out.trans (b3.mono B.out.size))
            go_wp2_with fail
            go_ret
            exact ⟨rfl, B.out⟩
      | true =>
        obtain rfl : c = true := h1.2 (h2.2 hh)
        clear h1 h2
        obtain ⟨⟨v, t⟩, hv⟩ := look_fact hG.2.1 il
        rw [hh, hv] at HGC
        rw [hh] at HHC
        clear hv hh
        go_wp2_with fail
        have hget := HGC.out _ S.out
        change Calls _ _ _ _ (fun e W' => e = .returned (.tuple #[.agg (factC v t), .bool true]) ∧ _) at hget
        refine (hget).mono ?_
        rintro e W9 ⟨rfl, b3⟩
        have D := Lib.hid b3
        clear b3 HGC hget
        have hone := factC_one v t
        go_upto_region 17 with (refine wpList_store_row rfl 33 _ _ rfl W9.heap.size (factC v t) rfl rfl 33 (factC (fun _ => 0) ⟨#[]⟩) (heap_new W9 _) (hiC _ _) rfl hone ?_)
        obtain ⟨W10, hWD, f1, b3⟩ : ∃ WD, (W9.alloc (.cells (factC (fun _ => 0) ⟨#[]⟩) 33)).setRow W9.heap.size (factC v t) = WD ∧ WD.heap[W9.heap.size]? = some (.cells (factC v t) 33 (0, 0)) ∧ Below W9.heap.size W9 WD :=
          ⟨_, rfl, setRow_heap _ _ _ _ _ _ (heap_new W9 _), below_setRow' ((Below.refl _ W9).alloc (Nat.le_refl _) _) _ _ (Nat.le_refl _)⟩
        rw [hWD]
        clear hWD hone
        replace D := Lib.hid (D.out.trans (b3.mono D.out.size))
        have F1 := Lib.hid f1
        clear f1 b3
        generalize W9.heap.size = fb at *
        go_wp2_with fail
        refine (HHC.out _ (S.out.below D.out)).mono ?_
        rintro e W11 ⟨rfl, b3⟩
        replace F1 := Lib.hid ((b3.block _ (Array.getElem?_eq_some_iff.1 F1.out).1).trans F1.out)
        replace D := Lib.hid (D.out.trans (b3.mono D.out.size))
        clear b3 HHC
        replace S := Lib.hid (S.out.below D.out)
        replace B := Lib.hid (B.out.trans (Below.mono D.out B.out.size))
        have hTI : Hid (K = [] ∨ ∃ g, AI = some ⟨g, 0, none⟩ ∧ W3.heap.size ≤ g ∧ W11.there g 0 i) := Lib.hid (HTI.out.imp (fun h => h) (fun ⟨g, e, h1, h2⟩ => ⟨g, e, h1, there_keep h2 D.out⟩))
        have hTF : Hid (fs = [] ∨ ∃ g, AF = some ⟨g, 0, none⟩ ∧ W4.heap.size ≤ g ∧ W11.there g 0 (i * 18)) := Lib.hid (HTF.out.imp (fun h => h) (fun ⟨g, e, h1, h2⟩ => ⟨g, e, h1, there_keep h2 D.out⟩))
        replace HTI := hTI
        replace HTF := hTF
        clear D
        go_upto_region 20 with (fail)
        go_loopw [17] (fun jv wr => ∃ j : Nat, j ≤ i ∧ jv = .int .i64 j ∧ Hid (SetAt wr ps bs es) ∧ Hid (Below w.heap.size w wr) ∧ Hid (∀ g, AI = some ⟨g, 0, none⟩ → wr.there g 0 i) ∧ Hid (∀ g, AF = some ⟨g, 0, none⟩ → wr.there g 0 (i * 18))) (fun jv _ => i - (intOf jv).toNat)
        case atStart =>
          refine ⟨0, by omega, rfl, S, B, Lib.hid (fun g e => ?_), Lib.hid (fun g e => ?_)⟩
          · rcases HTI.out with h | ⟨g2, e2, _, h3⟩
            · rw [HKN.out h]; exact fun j hj => absurd hj (Nat.not_lt_zero j)
            · rw [e] at e2; cases e2; exact h3
          · rcases HTF.out with h | ⟨g2, e2, _, h3⟩
            · rw [HNIL.out h]; exact fun j hj => absurd hj (by omega)
            · rw [e] at e2; cases e2; exact h3
        case round =>
          clear S B
          obtain ⟨j, hj, rfl, S, B, RI, RF⟩ := hrel
          have j0 : 0 ≤ (j : Int) := by omega
          by_cases hlt : j < i
          · have j1 : (j : Int) < (i : Int) := by omega
            rcases HTI.out with hz | ⟨gI, rfl, hgI, -⟩
            · exact absurd (HKN.out hz) (by omega)
            rcases HTF.out with hz | ⟨gF, rfl, hgF, -⟩
            · exact absurd (HNIL.out hz) (by omega)
            have t1 := RI.out gI rfl
            have t2 := RF.out gF rfl
            obtain ⟨cv, c1⟩ : ∃ v, wr.cell? ⟨gI, j, none⟩ = some v := by have h := (t1 j hlt).1; rw [Nat.zero_add] at h; exact Option.isSome_iff_exists.1 h
            have z1 : wr.frozen? ⟨gI, j, none⟩ = false := by have h := (t1 j hlt).2; rwa [Nat.zero_add] at h
            obtain ⟨Wx, hWx⟩ : ∃ Wx, wr.setCell ⟨gI, j, none⟩ (.string ⟨#[120]⟩) = Wx := ⟨_, rfl⟩
            have g1 : wr.grownBy Wx (some gI) := by rw [← hWx]; exact grown_setCell6 wr ⟨gI, j, none⟩ _
            have t1x : Wx.there gI 0 i := by rw [← hWx]; exact World.there_setCells t1 gI j [.string ⟨#[120]⟩]
            have t2x : Wx.there gF 0 (i * 18) := by rw [← hWx]; exact World.there_setCells t2 gI j [.string ⟨#[120]⟩]
            have t3 := there_part (o := j * 18) (m := 18) t2x (by omega)
            have hwg : w.heap.size ≤ gI := Nat.le_trans hw3 hgI
            have hwf : w.heap.size ≤ gF := Nat.le_trans hw4 hgF
            replace S := Lib.hid (S.out.keep g1 (fun e => by have := Option.some.inj e; omega) (fun e => by have := Option.some.inj e; omega))
            replace B := Lib.hid (B.out.grown g1 B.out.size (fun q e => by cases e; exact hwg))
            clear t1 t2 RI RF
            have T1 := Lib.hid t1x
            have T2 := Lib.hid t2x
            have T3 := Lib.hid t3
            have G1 := Lib.hid g1
            have HWx := Lib.hid hWx
            clear t1x t2x t3 g1 hWx
            go_upto_region 23 with (fail)
            rw [HWx.out]
            clear c1 z1 HWx
            obtain ⟨Wy, hWy⟩ : ∃ Wy, Wx.setCells gF (j * 18) (factC (fun _ => 0) ⟨#[]⟩).toList = Wy := ⟨_, rfl⟩
            have g2 : Wx.grownBy Wy (some gF) := by rw [← hWy]; exact grown_setCells6 gF _ _ _
            have T1y := Lib.hid (show Wy.there gI 0 i by rw [← hWy]; exact World.there_setCells T1.out gF _ _)
            have T2y := Lib.hid (show Wy.there gF 0 (i * 18) by rw [← hWy]; exact World.there_setCells T2.out gF _ _)
            replace S := Lib.hid (S.out.keep g2 (fun e => by have := Option.some.inj e; omega) (fun e => by have := Option.some.inj e; omega))
            replace B := Lib.hid (B.out.grown g2 B.out.size (fun q e => by cases e; exact hwf))
            have hone := factC_one (fun _ => 0) ⟨#[]⟩
            have hic := hiC (fun _ => 0) ⟨#[]⟩
            clear g2 T1 T2
            go_wp2_with (refine wpList_store_mid rfl 33 _ _ rfl gF (j * 18) (factC (fun _ => 0) ⟨#[]⟩) rfl rfl T3.out hic hone ?_)
            go_roundw
            case rel => exact ⟨j + 1, by omega, by go_num, S, B, Lib.hid (fun g e => by cases e; exact T1y.out), Lib.hid (fun g e => by cases e; exact T2y.out)⟩
            case measure => simp [intOf]; omega
          · obtain rfl : j = i := by omega
            have j1 : (j : Int) ≤ (j : Int) := by omega
            clear hlt hj HTI HTF RI RF
            go_wp2_with fail
            refine (CX.out _ B.out).mono ?_
            rintro e W17 ⟨vc, rfl, hrow, b3⟩
            obtain ⟨Ad, cd, rfl, hcd, hst⟩ := RowA.slice hrow
            replace S := Lib.hid (S.out.below b3)
            replace B := Lib.hid (B.out.trans (b3.mono B.out.size))
            clear b3 hrow
            go_wp2_with fail
            refine (of_calls _ Ad cd W17 (HK.out _ B.out) hst (by have := HX.out; omega)).mono ?_
            rintro e W18 ⟨pt, bt, rfl, hS2, -, -, b3⟩
            rw [Hfs.out] at hS2
            replace S := Lib.hid (S.out.below b3)
            replace B := Lib.hid (B.out.trans (b3.mono B.out.size))
            clear b3 hst
            go_wp2_with fail
            refine (same_sets ps bs pt bt es es W18 (HK.out _ B.out) S.out hS2 hG hG).mono ?_
            rintro e W19 ⟨c9, rfl, hc9, b3⟩
            obtain rfl := hc9 rfl
            replace B := Lib.hid (B.out.trans (b3.mono B.out.size))
            go_wp2_with fail
            go_ret
            exact ⟨rfl, B.out⟩
end Go.Proofs.YtmhphmolbjjopaaDoor
