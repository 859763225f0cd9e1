/- The walk of FactDecodedAgain. Conditions: the table of constants reads as the program lays it; the variable errForm holds an error of its own. -/
import Derived.Test.YtnbeebndcgoalaaDoorFHlp
namespace Go.Proofs.YtnbeebndcgoalaaDoor
open Go.RowKit
/-- A string of at most 2200 bytes. -/
def cutS (s : ByteArray) : ByteArray := s.extract 0 (min s.size 2200)
theorem cutS_size (s : ByteArray) : (cutS s).size ≤ 2200 := by
  show (cutS s).data.toList.length ≤ 2200
  unfold cutS
  rw [Lib.extract_data, List.length_take]; omega
theorem eq_zero : eqB zeroV zeroV ⟨#[]⟩ ⟨#[]⟩ = true := by rw [eqB_iff]; exact ⟨fun _ _ => rfl, rfl⟩
theorem dcE_cases (s : ByteArray) : (dcE s = 0 ∧ okT (dcV s) (dcT s) = true ∧ s = ⟨(encV (dcV s) (dcT s).data.toList).toArray⟩) ∨ ((dcE s = 10 ∨ dcE s = 50) ∧ dcV s = zeroV ∧ dcT s = ⟨#[]⟩) := by
  rcases rdE_cases s with h0 | h0
  · rcases hc : okT (rdV s) (rdT s) with _ | _
    · have e1 : dcE s = 50 := by unfold dcE; rw [if_pos h0, hc]; rfl
      exact .inr ⟨.inr e1, by unfold dcV; rw [e1]; rfl, by unfold dcT; rw [e1]; rfl⟩
    · have e1 : dcE s = 0 := by unfold dcE; rw [if_pos h0, hc]; rfl
      have e2 : dcV s = rdV s := by unfold dcV; rw [e1]; rfl
      have e3 : dcT s = rdT s := by unfold dcT; rw [e1]; rfl
      refine .inl ⟨e1, by rw [e2, e3]; exact hc, ?_⟩
      rw [e2, e3]
      unfold rdV rdT
      unfold rdE at h0
      cases hr : rdF s.data.toList with
      | none => rw [hr] at h0; exact absurd h0 (by decide)
      | some q =>
        obtain ⟨l, t⟩ := q
        have := (rdF_some _ l t hr).2.2
        simp only
        rw [← this]
  · have e1 : dcE s = 10 := by unfold dcE; rw [if_neg (by rw [h0]; decide), h0]
    exact .inr ⟨.inl e1, by unfold dcV; rw [e1]; rfl, by unfold dcT; rw [e1]; rfl⟩

set_option maxRecDepth 100000 in
set_option maxHeartbeats 4000000 in
theorem again_ok (s : ByteArray) (w : World) (a : Addr) (hK : Konst w) (hE : ErrK a w) (hs : s.size ≤ 9223372036854775807) (h1 : dcE (cutS s) = 0) (hok : okT (dcV (cutS s)) (dcT (cutS s)) = true) (hcode : cutS s = ⟨(encV (dcV (cutS s)) (dcT (cutS s)).data.toList).toArray⟩) :
    Calls Tryd.prog 7 #[.string s] w fun e W' => e = .returned (.bool true) ∧ Below w.heap.size w W' := by
  have hgE : 0 < w.heap.size := World.block_lt_of_cell? w _ hE
  have HK := Lib.hid hK
  have HE := Lib.hid hE
  clear hK hE
  have HS := Lib.hid (fun W (h : Konst W) (h' : ErrK a W) => sane_calls a W h h')
  have HC := Lib.hid (show cutS s = s.extract 0 (min s.size 2200) from rfl)
  have hcs : (cutS s).size ≤ 2200 := cutS_size s
  have HD := Lib.hid (fun W (h : ErrK a W) => Decode_calls (cutS s) a W h (by omega))
  rw [h1] at HD
  generalize dcV (cutS s) = v at *
  generalize dcT (cutS s) = t at *
  have CE : Hid (∀ W, Calls Tryd.prog 21 #[.agg (factC v t)] W fun e W' => e = .returned (.tuple #[.string ⟨(encV v t.data.toList).toArray⟩, .int .i64 0]) ∧ Below W.heap.size W W') := Lib.hid (fun W => by
    have h := Encode_calls v t W
    rw [show codeF v t = encV v t.data.toList by unfold codeF; rw [hok]; rfl, show errF v t = 0 by unfold errF; rw [hok]; rfl] at h
    exact h)
  rw [← hcode] at CE
  have HV := Lib.hid (fun W => Valid_eq v t true hok W)
  clear hcode hok h1
  generalize cutS s = c at *
  go_enter Tryd.func7, Tryd.ntmps7
  go_wp2_with fail
  refine (HS.out _ HK.out HE.out).mono ?_
  rintro e W1 ⟨rfl, b1⟩
  have B1 := Lib.hid (b1)
  clear b1
  go_upto_region 3 with (fail)
  have hx : s.extract 0 (min (s.size : Int) 2200).toNat = c := by rw [HC.out]; congr 1; omega
  rw [hx]
  clear hx
  go_wp2_with fail
  refine (HD.out _ (HE.out.keep B1.out hgE)).mono ?_
  rintro e W2 ⟨rfl, b2⟩
  have B2 := Lib.hid (B1.out.trans (Below.mono b2 B1.out.size))
  clear B1
  clear b2
  have honeF := factC_one v t
  go_upto_region 4 with (first
      | (refine wpList_store_row rfl 23 _ _ rfl W2.heap.size (factC v t) rfl rfl 23 _ (heap_new W2 _) (hiC _ _) rfl honeF ?_))
  have hBF : w.heap.size ≤ W2.heap.size := B2.out.size
  obtain ⟨W3, hW3, F3, B3, hs3⟩ : ∃ W3, (W2.alloc (.cells (factC zeroV ⟨#[]⟩) 23)).setRow W2.heap.size (factC v t) = W3 ∧ Hid (W3.heap[W2.heap.size]? = some (.cells (factC v t) 23 (0, 0))) ∧ Hid (Below w.heap.size w W3) ∧ Hid (W2.heap.size < W3.heap.size) :=
    ⟨_, rfl, Lib.hid (setRow_heap _ _ _ _ _ _ (heap_new W2 _)), Lib.hid (below_setRow' (B2.out.alloc B2.out.size _) _ _ B2.out.size), Lib.hid (by simp)⟩
  rw [hW3]
  clear hW3  B2
  have hleF := hBF
  clear hBF
  generalize W2.heap.size = AF at *
  go_wp2_with (first
      | (refine wpList_load_fact rfl _ rfl AF rfl v t F3.out ?_))
  refine (CE.out _).mono ?_
  rintro e W4 ⟨rfl, b4⟩
  have F4 := Lib.hid (Hl.row b4 F3.out)
  have B4 := Lib.hid (B3.out.trans (Below.mono b4 B3.out.size))
  clear F3 B3
  clear b4
  go_wp2_with (first
      | (refine wpList_load_fact rfl _ rfl AF rfl v t F4.out ?_))
  refine (HV.out _).mono ?_
  rintro e W5 ⟨rfl, b5⟩
  have F5 := Lib.hid (Hl.row b5 F4.out)
  have B5 := Lib.hid (B4.out.trans (Below.mono b5 B4.out.size))
  clear F4 B4
  clear b5
  go_wp2_with (first
      | (refine wpList_load_fact rfl _ rfl AF rfl v t F5.out ?_))
  go_ret
  exact ⟨rfl, B5.out⟩

set_option maxRecDepth 100000 in
set_option maxHeartbeats 4000000 in
theorem again_form (s : ByteArray) (w : World) (a : Addr) (hK : Konst w) (hE : ErrK a w) (hs : s.size ≤ 9223372036854775807) (h1 : dcE (cutS s) = 10) (hv : dcV (cutS s) = zeroV) (ht : dcT (cutS s) = ⟨#[]⟩) :
    Calls Tryd.prog 7 #[.string s] w fun e W' => e = .returned (.bool true) ∧ Below w.heap.size w W' := by
  have hgE : 0 < w.heap.size := World.block_lt_of_cell? w _ hE
  have HK := Lib.hid hK
  have HE := Lib.hid hE
  clear hK hE
  have HS := Lib.hid (fun W (h : Konst W) (h' : ErrK a W) => sane_calls a W h h')
  have HC := Lib.hid (show cutS s = s.extract 0 (min s.size 2200) from rfl)
  have hcs : (cutS s).size ≤ 2200 := cutS_size s
  have HD := Lib.hid (fun W (h : ErrK a W) => Decode_calls (cutS s) a W h (by omega))
  rw [h1, hv, ht] at HD
  have hq := fun W => runEq zeroV zeroV ⟨#[]⟩ ⟨#[]⟩ W
  rw [eq_zero] at hq
  clear h1 hv ht
  generalize cutS s = c at *
  go_enter Tryd.func7, Tryd.ntmps7
  go_wp2_with fail
  refine (HS.out _ HK.out HE.out).mono ?_
  rintro e W1 ⟨rfl, b1⟩
  have B1 := Lib.hid (b1)
  clear b1
  go_upto_region 3 with (fail)
  have hx : s.extract 0 (min (s.size : Int) 2200).toNat = c := by rw [HC.out]; congr 1; omega
  rw [hx]
  clear hx
  go_wp2_with fail
  refine (HD.out _ (HE.out.keep B1.out hgE)).mono ?_
  rintro e W2 ⟨rfl, b2⟩
  have B2 := Lib.hid (B1.out.trans (Below.mono b2 B1.out.size))
  clear B1
  clear b2
  have honeF := factC_one zeroV ⟨#[]⟩
  go_upto_region 4 with (first
      | (refine wpList_store_row rfl 23 _ _ rfl W2.heap.size (factC zeroV ⟨#[]⟩) rfl rfl 23 _ (heap_new W2 _) (hiC _ _) rfl honeF ?_))
  have hBF : w.heap.size ≤ W2.heap.size := B2.out.size
  obtain ⟨W3, hW3, F3, B3, hs3⟩ : ∃ W3, (W2.alloc (.cells (factC zeroV ⟨#[]⟩) 23)).setRow W2.heap.size (factC zeroV ⟨#[]⟩) = W3 ∧ Hid (W3.heap[W2.heap.size]? = some (.cells (factC zeroV ⟨#[]⟩) 23 (0, 0))) ∧ Hid (Below w.heap.size w W3) ∧ Hid (W2.heap.size < W3.heap.size) :=
    ⟨_, rfl, Lib.hid (setRow_heap _ _ _ _ _ _ (heap_new W2 _)), Lib.hid (below_setRow' (B2.out.alloc B2.out.size _) _ _ B2.out.size), Lib.hid (by simp)⟩
  rw [hW3]
  clear hW3  B2
  have hleF := hBF
  clear hBF
  generalize W2.heap.size = AF at *
  go_wp2_with (first
      | (refine wpList_load_fact rfl _ rfl AF rfl zeroV ⟨#[]⟩ F3.out ?_))
  go_ret
  exact ⟨rfl, B3.out⟩

set_option maxRecDepth 100000 in
set_option maxHeartbeats 4000000 in
theorem again_fact (s : ByteArray) (w : World) (a : Addr) (hK : Konst w) (hE : ErrK a w) (hs : s.size ≤ 9223372036854775807) (h1 : dcE (cutS s) = 50) (hv : dcV (cutS s) = zeroV) (ht : dcT (cutS s) = ⟨#[]⟩) :
    Calls Tryd.prog 7 #[.string s] w fun e W' => e = .returned (.bool true) ∧ Below w.heap.size w W' := by
  have hgE : 0 < w.heap.size := World.block_lt_of_cell? w _ hE
  have HK := Lib.hid hK
  have HE := Lib.hid hE
  clear hK hE
  have HS := Lib.hid (fun W (h : Konst W) (h' : ErrK a W) => sane_calls a W h h')
  have HC := Lib.hid (show cutS s = s.extract 0 (min s.size 2200) from rfl)
  have hcs : (cutS s).size ≤ 2200 := cutS_size s
  have HD := Lib.hid (fun W (h : ErrK a W) => Decode_calls (cutS s) a W h (by omega))
  rw [h1, hv, ht] at HD
  have hq := fun W => runEq zeroV zeroV ⟨#[]⟩ ⟨#[]⟩ W
  rw [eq_zero] at hq
  clear h1 hv ht
  generalize cutS s = c at *
  go_enter Tryd.func7, Tryd.ntmps7
  go_wp2_with fail
  refine (HS.out _ HK.out HE.out).mono ?_
  rintro e W1 ⟨rfl, b1⟩
  have B1 := Lib.hid (b1)
  clear b1
  go_upto_region 3 with (fail)
  have hx : s.extract 0 (min (s.size : Int) 2200).toNat = c := by rw [HC.out]; congr 1; omega
  rw [hx]
  clear hx
  go_wp2_with fail
  refine (HD.out _ (HE.out.keep B1.out hgE)).mono ?_
  rintro e W2 ⟨rfl, b2⟩
  have B2 := Lib.hid (B1.out.trans (Below.mono b2 B1.out.size))
  clear B1
  clear b2
  have honeF := factC_one zeroV ⟨#[]⟩
  go_upto_region 4 with (first
      | (refine wpList_store_row rfl 23 _ _ rfl W2.heap.size (factC zeroV ⟨#[]⟩) rfl rfl 23 _ (heap_new W2 _) (hiC _ _) rfl honeF ?_))
  have hBF : w.heap.size ≤ W2.heap.size := B2.out.size
  obtain ⟨W3, hW3, F3, B3, hs3⟩ : ∃ W3, (W2.alloc (.cells (factC zeroV ⟨#[]⟩) 23)).setRow W2.heap.size (factC zeroV ⟨#[]⟩) = W3 ∧ Hid (W3.heap[W2.heap.size]? = some (.cells (factC zeroV ⟨#[]⟩) 23 (0, 0))) ∧ Hid (Below w.heap.size w W3) ∧ Hid (W2.heap.size < W3.heap.size) :=
    ⟨_, rfl, Lib.hid (setRow_heap _ _ _ _ _ _ (heap_new W2 _)), Lib.hid (below_setRow' (B2.out.alloc B2.out.size _) _ _ B2.out.size), Lib.hid (by simp)⟩
  rw [hW3]
  clear hW3  B2
  have hleF := hBF
  clear hBF
  generalize W2.heap.size = AF at *
  go_wp2_with (first
      | (refine wpList_load_fact rfl _ rfl AF rfl zeroV ⟨#[]⟩ F3.out ?_))
  go_ret
  exact ⟨rfl, B3.out⟩

theorem again_walk (s : ByteArray) (w : World) (a : Addr) (hK : Konst w) (hE : ErrK a w) (hs : s.size ≤ 9223372036854775807) :
    Calls Tryd.prog 7 #[.string s] w fun e W' => e = .returned (.bool true) ∧ Below w.heap.size w W' := by
  rcases dcE_cases (cutS s) with ⟨h1, h2, h3⟩ | ⟨h1 | h1, h2, h3⟩
  · exact again_ok s w a hK hE hs h1 h2 h3
  · exact again_form s w a hK hE hs h1 h2 h3
  · exact again_fact s w a hK hE hs h1 h2 h3

end Go.Proofs.YtnbeebndcgoalaaDoor
