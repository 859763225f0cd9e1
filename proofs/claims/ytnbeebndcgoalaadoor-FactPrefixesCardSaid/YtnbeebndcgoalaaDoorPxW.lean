/- The walk of FactPrefixes. Conditions: the table of constants reads as the program lays it; the variable errForm holds an error of its own. -/
import Derived.Test.YtnbeebndcgoalaaDoorFHlp
namespace Go.Proofs.YtnbeebndcgoalaaDoor
open Go.RowKit
theorem Decode_bad (s : ByteArray) (h : rdF s.data.toList = none) (a : Addr) (w : World) (hE : ErrK a w) (hsz : s.size ≤ 9223372036854775807) :
    Calls Tryd.prog 25 #[.string s] w fun e W' => e = .returned (.tuple #[.agg (factC zeroV ⟨#[]⟩), .int .i64 10]) ∧ Below w.heap.size w W' := by
  have h0 : rdE s = 10 := by unfold rdE; rw [h]
  have e1 : dcE s = 10 := by unfold dcE; rw [h0]; rfl
  have e2 : dcV s = zeroV := by unfold dcV; rw [e1]; rfl
  have e3 : dcT s = ⟨#[]⟩ := by unfold dcT; rw [e1]; rfl
  have := Decode_calls s a w hE hsz
  rw [e1, e2, e3] at this
  exact this
theorem app_list0 (a b : ByteArray) : (a ++ b).data.toList = a.data.toList ++ b.data.toList := by
  rw [ByteArray.data_append, Array.toList_append]
theorem app_none (C : ByteArray) : C ++ (⟨#[]⟩ : ByteArray) = C := by
  apply ByteArray.ext; apply Array.ext'; rw [app_list0]; exact List.append_nil _
theorem nil_of (s : ByteArray) (h : s.size = 0) : s = ⟨#[]⟩ := by
  obtain ⟨⟨l⟩⟩ := s; cases l with
  | nil => rfl
  | cons a l => exact absurd h (by show ¬ l.length + 1 = 0; omega)
/-- At most 20 bytes. -/
def cutM (s : ByteArray) : ByteArray := s.extract 0 (min s.size 20)
theorem cutM_size (s : ByteArray) : (cutM s).size ≤ 20 := by
  show (cutM s).data.toList.length ≤ 20
  unfold cutM
  rw [Lib.extract_data, List.length_take]; omega
theorem size_arr (l : List UInt8) : (⟨l.toArray⟩ : ByteArray).size = l.length := rfl
theorem data_arr (l : List UInt8) : (⟨l.toArray⟩ : ByteArray).data.toList = l := rfl
theorem size_len (s : ByteArray) : s.data.toList.length = s.size := rfl
theorem cutT_len (t : ByteArray) : (cutT t).data.toList.length ≤ 2010 := cutT_size t
theorem app_list (a b : ByteArray) : (a ++ b).data.toList = a.data.toList ++ b.data.toList := by
  rw [ByteArray.data_append, Array.toList_append]

set_option maxRecDepth 100000 in
set_option maxHeartbeats 4000000 in
theorem pref_bad (v : Nat → Int) (t : ByteArray) (n : Int) (m : ByteArray) (w : World) (a : Addr) (hK : Konst w) (hE : ErrK a w) (ht : t.size ≤ 9223372036854775807) (_ : -9223372036854775808 ≤ n) (_ : n ≤ 9223372036854775807) (_ : m.size ≤ 9223372036854775807) (hok : okT v (cutT t) = false) :
    Calls Tryd.prog 8 #[.agg (factC v t), .int .i64 n, .string m] w fun e W' => e = .returned (.bool true) ∧ Below w.heap.size w W' := by
  have hgE : 0 < w.heap.size := World.block_lt_of_cell? w _ hE
  have HK := Lib.hid hK
  have HE := Lib.hid hE
  clear hK hE
  have HS := Lib.hid (fun W (h : Konst W) (h' : ErrK a W) => sane_calls a W h h')
  have HC := Lib.hid (fun W => cut_calls v t W ht)
  have CE : Hid (∀ W, Calls Tryd.prog 21 #[.agg (factC v (cutT t))] W fun e W' => e = .returned (.tuple #[.string ⟨#[]⟩, .int .i64 50]) ∧ Below W.heap.size W W') := Lib.hid (fun W => by
    have h := Encode_calls v (cutT t) W
    rw [show codeF v (cutT t) = [] by unfold codeF; rw [hok]; rfl, show errF v (cutT t) = 50 by unfold errF; rw [hok]; rfl] at h
    exact h)
  clear hok
  generalize cutT t = ct at *
  go_enter Tryd.func8, Tryd.ntmps8
  go_upto_region 1 with (fail)
  obtain ⟨W0, hW0, f0, b0⟩ := one_row w (factC v t) 23
  rw [hW0]
  clear hW0
  have P0 := Lib.hid f0
  have B0 := Lib.hid b0
  clear f0 b0
  go_wp2_with (first
      | (refine wpList_load_fact rfl _ rfl w.heap.size rfl v t P0.out ?_))
  refine (HS.out _ (HK.out.keep B0.out) (HE.out.keep B0.out hgE)).mono ?_
  rintro e W1 ⟨rfl, b1⟩
  have P1 := Lib.hid (Hl.row b1 P0.out)
  have B1 := Lib.hid (B0.out.trans (Below.mono b1 B0.out.size))
  clear P0 B0
  clear b1
  go_wp2_with (first
      | (refine wpList_load_fact rfl _ rfl w.heap.size rfl v t P1.out ?_))
  refine (HC.out _).mono ?_
  rintro e W2 ⟨rfl, b2⟩
  have P2 := Lib.hid (Hl.row b2 P1.out)
  have B2 := Lib.hid (B1.out.trans (Below.mono b2 B1.out.size))
  clear P1 B1
  clear b2
  go_wp2_with (first
      | (refine wpList_load_fact rfl _ rfl w.heap.size rfl v t P2.out ?_))
  refine (CE.out _).mono ?_
  rintro e W3 ⟨rfl, b3⟩
  have P3 := Lib.hid (Hl.row b3 P2.out)
  have B3 := Lib.hid (B2.out.trans (Below.mono b3 B2.out.size))
  clear P2 B2
  clear b3
  go_wp2_with (first
      | (refine wpList_load_fact rfl _ rfl w.heap.size rfl v t P3.out ?_))
  go_ret
  exact ⟨rfl, B3.out⟩

set_option maxRecDepth 100000 in
set_option maxHeartbeats 4000000 in
theorem pref_empty (v : Nat → Int) (t : ByteArray) (n : Int) (m : ByteArray) (w : World) (a : Addr) (hK : Konst w) (hE : ErrK a w) (ht : t.size ≤ 9223372036854775807) (hn0 : -9223372036854775808 ≤ n) (hn1 : n ≤ 9223372036854775807) (hm : m.size ≤ 9223372036854775807) (hok : okT v (cutT t) = true) (hM : (cutM m).size = 0) :
    Calls Tryd.prog 8 #[.agg (factC v t), .int .i64 n, .string m] w fun e W' => e = .returned (.bool true) ∧ Below w.heap.size w W' := by
  have hgE : 0 < w.heap.size := World.block_lt_of_cell? w _ hE
  have HK := Lib.hid hK
  have HE := Lib.hid hE
  clear hK hE
  have HS := Lib.hid (fun W (h : Konst W) (h' : ErrK a W) => sane_calls a W h h')
  have HC := Lib.hid (fun W => cut_calls v t W ht)
  obtain ⟨C, hC, CE, hs18, hs2⟩ : ∃ C : ByteArray, C.data.toList = encV v (cutT t).data.toList ∧ Hid (∀ W, Calls Tryd.prog 21 #[.agg (factC v (cutT t))] W fun e W' => e = .returned (.tuple #[.string C, .int .i64 0]) ∧ Below W.heap.size W W') ∧ 18 ≤ C.size ∧ C.size ≤ 2200 := by
    refine ⟨⟨(encV v (cutT t).data.toList).toArray⟩, data_arr _, Lib.hid (fun W => ?_), by rw [size_arr]; exact (encV_length v (cutT t).data.toList).1, ?_⟩
    · have h := Encode_calls v (cutT t) W
      rw [show codeF v (cutT t) = encV v (cutT t).data.toList by unfold codeF; rw [hok]; rfl, show errF v (cutT t) = 0 by unfold errF; rw [hok]; rfl] at h
      exact h
    · have h1 := (encV_length v (cutT t).data.toList).2
      have h2 := cutT_len t
      rw [size_arr]
      omega
  have hpk := pickF_lt n (C.size : Int) (by omega)
  have HP := Lib.hid (fun W => pick_calls n (C.size : Int) W hn0 hn1 (by omega) (by omega))
  have HD1 := Lib.hid (fun W (h : ErrK a W) => Decode_bad (C.extract 0 (pickF n (C.size : Int)).toNat) (by
    rw [Lib.extract_data, List.drop_zero, hC]
    refine rdF_short v _ (okT_fits hok) _ ?_
    have := size_len C
    rw [← hC]; omega) a W h (by
      rw [← size_len, Lib.extract_data, List.length_take]; omega))
  have hmz := cutM_size m
  have hme : cutM m = ⟨#[]⟩ := nil_of (cutM m) hM
  have hca := app_none C
  have HD2 := Lib.hid (fun W (h : ErrK a W) => Decode_code v (cutT t) hok C hC a W h (by omega))
  rw [← hca] at HD2
  rw [← hme] at HD2
  have hMM : (cutM m).toList.isEmpty = true := by rw [hme, Lib.toList_data]; rfl
  have HM := Lib.hid (show cutM m = m.extract 0 (min m.size 20) from rfl)
  have hCC : C.toList.isEmpty = false := by
    rw [Lib.toList_data, List.isEmpty_eq_false_iff]; intro h
    have := size_len C
    rw [h] at this; simp at this; omega
  clear hok hC hme hca hM
  generalize cutM m = M at *
  generalize hpp : pickF n (C.size : Int) = P at *
  generalize cutT t = ct at *
  go_enter Tryd.func8, Tryd.ntmps8
  go_upto_region 1 with (fail)
  obtain ⟨W0, hW0, f0, b0⟩ := one_row w (factC v t) 23
  rw [hW0]
  clear hW0
  have P0 := Lib.hid f0
  have B0 := Lib.hid b0
  clear f0 b0
  go_wp2_with (first
      | (refine wpList_load_fact rfl _ rfl w.heap.size rfl v t P0.out ?_))
  refine (HS.out _ (HK.out.keep B0.out) (HE.out.keep B0.out hgE)).mono ?_
  rintro e W1 ⟨rfl, b1⟩
  have P1 := Lib.hid (Hl.row b1 P0.out)
  have B1 := Lib.hid (B0.out.trans (Below.mono b1 B0.out.size))
  clear P0 B0
  clear b1
  go_wp2_with (first
      | (refine wpList_load_fact rfl _ rfl w.heap.size rfl v t P1.out ?_))
  refine (HC.out _).mono ?_
  rintro e W2 ⟨rfl, b2⟩
  have P2 := Lib.hid (Hl.row b2 P1.out)
  have B2 := Lib.hid (B1.out.trans (Below.mono b2 B1.out.size))
  clear P1 B1
  clear b2
  go_wp2_with (first
      | (refine wpList_load_fact rfl _ rfl w.heap.size rfl v t P2.out ?_))
  refine (CE.out _).mono ?_
  rintro e W3 ⟨rfl, b3⟩
  have P3 := Lib.hid (Hl.row b3 P2.out)
  have B3 := Lib.hid (B2.out.trans (Below.mono b3 B2.out.size))
  clear P2 B2
  clear b3
  go_upto_region 6 with (first
      | (refine wpList_load_fact rfl _ rfl w.heap.size rfl v t P3.out ?_))
  have hx : m.extract 0 (min (m.size : Int) 20).toNat = M := by rw [HM.out]; congr 1; omega
  rw [hx]
  clear hx
  go_wp2_with (first
      | (refine wpList_load_fact rfl _ rfl w.heap.size rfl v t P3.out ?_))
  refine (HP.out _).mono ?_
  rintro e W' ⟨rfl, rfl⟩
  go_wp2_with (first
      | (refine wpList_load_fact rfl _ rfl w.heap.size rfl v t P3.out ?_))
  refine (HD1.out _ (HE.out.keep B3.out hgE)).mono ?_
  rintro e W4 ⟨rfl, b4⟩
  have P4 := Lib.hid (Hl.row b4 P3.out)
  have B4 := Lib.hid (B3.out.trans (Below.mono b4 B3.out.size))
  clear P3 B3
  clear b4
  have honeF := factC_one zeroV ⟨#[]⟩
  go_upto_region 7 with (first
      | (refine wpList_store_row rfl 23 _ _ rfl W4.heap.size (factC zeroV ⟨#[]⟩) rfl rfl 23 _ (heap_new W4 _) (hiC _ _) rfl honeF ?_)
      | (refine wpList_load_fact rfl _ rfl w.heap.size rfl v t P4.out ?_))
  have hltPF : w.heap.size < W4.heap.size := (Array.getElem?_eq_some_iff.1 P4.out).1
  have hBF : w.heap.size ≤ W4.heap.size := B4.out.size
  obtain ⟨W5, hW5, P5, F5, B5, hs5⟩ : ∃ W5, (W4.alloc (.cells (factC zeroV ⟨#[]⟩) 23)).setRow W4.heap.size (factC zeroV ⟨#[]⟩) = W5 ∧ Hid (W5.heap[w.heap.size]? = some (.cells (factC v t) 23 (0, 0))) ∧ Hid (W5.heap[W4.heap.size]? = some (.cells (factC zeroV ⟨#[]⟩) 23 (0, 0))) ∧ Hid (Below w.heap.size w W5) ∧ Hid (W4.heap.size < W5.heap.size) :=
    ⟨_, rfl, Lib.hid ((setRow_other _ _ _ _ (Nat.ne_of_lt (Array.getElem?_eq_some_iff.1 P4.out).1)).trans (row_aft _ _ _ _ P4.out)), Lib.hid (setRow_heap _ _ _ _ _ _ (heap_new W4 _)), Lib.hid (below_setRow' (B4.out.alloc B4.out.size _) _ _ B4.out.size), Lib.hid (by simp)⟩
  rw [hW5]
  clear hW5 P4 B4
  have hleF := hBF
  clear hBF
  generalize W4.heap.size = AF at *
  go_wp2_with (first
      | (refine wpList_load_fact rfl _ rfl w.heap.size rfl v t P5.out ?_)
      | (refine wpList_load_fact rfl _ rfl AF rfl zeroV ⟨#[]⟩ F5.out ?_))
  refine (HD2.out _ (HE.out.keep B5.out hgE)).mono ?_
  rintro e W6 ⟨rfl, b6⟩
  have P6 := Lib.hid (Hl.row b6 P5.out)
  have F6 := Lib.hid (Hl.row b6 F5.out)
  have B6 := Lib.hid (B5.out.trans (Below.mono b6 B5.out.size))
  clear P5 F5 B5
  clear b6
  have honeG := factC_one v ct
  go_upto_region 8 with (first
      | (refine wpList_store_row rfl 23 _ _ rfl W6.heap.size (factC v ct) rfl rfl 23 _ (heap_new W6 _) (hiC _ _) rfl honeG ?_)
      | (refine wpList_load_fact rfl _ rfl w.heap.size rfl v t P6.out ?_)
      | (refine wpList_load_fact rfl _ rfl AF rfl zeroV ⟨#[]⟩ F6.out ?_))
  have hltPG : w.heap.size < W6.heap.size := (Array.getElem?_eq_some_iff.1 P6.out).1
  have hltFG : AF < W6.heap.size := (Array.getElem?_eq_some_iff.1 F6.out).1
  have hBG : w.heap.size ≤ W6.heap.size := B6.out.size
  obtain ⟨W7, hW7, P7, F7, G7, B7, hs7⟩ : ∃ W7, (W6.alloc (.cells (factC zeroV ⟨#[]⟩) 23)).setRow W6.heap.size (factC v ct) = W7 ∧ Hid (W7.heap[w.heap.size]? = some (.cells (factC v t) 23 (0, 0))) ∧ Hid (W7.heap[AF]? = some (.cells (factC zeroV ⟨#[]⟩) 23 (0, 0))) ∧ Hid (W7.heap[W6.heap.size]? = some (.cells (factC v ct) 23 (0, 0))) ∧ Hid (Below w.heap.size w W7) ∧ Hid (W6.heap.size < W7.heap.size) :=
    ⟨_, rfl, Lib.hid ((setRow_other _ _ _ _ (Nat.ne_of_lt (Array.getElem?_eq_some_iff.1 P6.out).1)).trans (row_aft _ _ _ _ P6.out)), Lib.hid ((setRow_other _ _ _ _ (Nat.ne_of_lt (Array.getElem?_eq_some_iff.1 F6.out).1)).trans (row_aft _ _ _ _ F6.out)), Lib.hid (setRow_heap _ _ _ _ _ _ (heap_new W6 _)), Lib.hid (below_setRow' (B6.out.alloc B6.out.size _) _ _ B6.out.size), Lib.hid (by simp)⟩
  rw [hW7]
  clear hW7 P6 F6 B6
  have hleG := hBG
  clear hBG
  generalize W6.heap.size = AG at *
  go_wp2_with (first
      | (refine wpList_load_fact rfl _ rfl w.heap.size rfl v t P7.out ?_)
      | (refine wpList_load_fact rfl _ rfl AF rfl zeroV ⟨#[]⟩ F7.out ?_)
      | (refine wpList_load_fact rfl _ rfl AG rfl v ct G7.out ?_))
  go_ret
  exact ⟨rfl, B7.out⟩

set_option maxRecDepth 100000 in
set_option maxHeartbeats 4000000 in
theorem pref_more (v : Nat → Int) (t : ByteArray) (n : Int) (m : ByteArray) (w : World) (a : Addr) (hK : Konst w) (hE : ErrK a w) (ht : t.size ≤ 9223372036854775807) (hn0 : -9223372036854775808 ≤ n) (hn1 : n ≤ 9223372036854775807) (hm : m.size ≤ 9223372036854775807) (hok : okT v (cutT t) = true) (hM : 0 < (cutM m).size) :
    Calls Tryd.prog 8 #[.agg (factC v t), .int .i64 n, .string m] w fun e W' => e = .returned (.bool true) ∧ Below w.heap.size w W' := by
  have hgE : 0 < w.heap.size := World.block_lt_of_cell? w _ hE
  have HK := Lib.hid hK
  have HE := Lib.hid hE
  clear hK hE
  have HS := Lib.hid (fun W (h : Konst W) (h' : ErrK a W) => sane_calls a W h h')
  have HC := Lib.hid (fun W => cut_calls v t W ht)
  obtain ⟨C, hC, CE, hs18, hs2⟩ : ∃ C : ByteArray, C.data.toList = encV v (cutT t).data.toList ∧ Hid (∀ W, Calls Tryd.prog 21 #[.agg (factC v (cutT t))] W fun e W' => e = .returned (.tuple #[.string C, .int .i64 0]) ∧ Below W.heap.size W W') ∧ 18 ≤ C.size ∧ C.size ≤ 2200 := by
    refine ⟨⟨(encV v (cutT t).data.toList).toArray⟩, data_arr _, Lib.hid (fun W => ?_), by rw [size_arr]; exact (encV_length v (cutT t).data.toList).1, ?_⟩
    · have h := Encode_calls v (cutT t) W
      rw [show codeF v (cutT t) = encV v (cutT t).data.toList by unfold codeF; rw [hok]; rfl, show errF v (cutT t) = 0 by unfold errF; rw [hok]; rfl] at h
      exact h
    · have h1 := (encV_length v (cutT t).data.toList).2
      have h2 := cutT_len t
      rw [size_arr]
      omega
  have hpk := pickF_lt n (C.size : Int) (by omega)
  have HP := Lib.hid (fun W => pick_calls n (C.size : Int) W hn0 hn1 (by omega) (by omega))
  have HD1 := Lib.hid (fun W (h : ErrK a W) => Decode_bad (C.extract 0 (pickF n (C.size : Int)).toNat) (by
    rw [Lib.extract_data, List.drop_zero, hC]
    refine rdF_short v _ (okT_fits hok) _ ?_
    have := size_len C
    rw [← hC]; omega) a W h (by
      rw [← size_len, Lib.extract_data, List.length_take]; omega))
  have hmz := cutM_size m
  have hMM : (cutM m).toList.isEmpty = false := by
    rw [Lib.toList_data, List.isEmpty_eq_false_iff]; intro h
    have := size_len (cutM m)
    rw [h] at this; simp at this; omega
  have HD2 := Lib.hid (fun W (h : ErrK a W) => Decode_bad (C ++ cutM m) (by
    rw [app_list, hC, rdF_more v _ _ (okT_fits hok), if_pos]
    exact hM) a W h (by
      rw [← size_len, app_list, List.length_append]
      have h1 := size_len C
      have h2 := size_len (cutM m)
      omega))
  have HM := Lib.hid (show cutM m = m.extract 0 (min m.size 20) from rfl)
  have hCC : C.toList.isEmpty = false := by
    rw [Lib.toList_data, List.isEmpty_eq_false_iff]; intro h
    have := size_len C
    rw [h] at this; simp at this; omega
  clear hok hC hM
  generalize cutM m = M at *
  generalize hpp : pickF n (C.size : Int) = P at *
  generalize cutT t = ct at *
  go_enter Tryd.func8, Tryd.ntmps8
  go_upto_region 1 with (fail)
  obtain ⟨W0, hW0, f0, b0⟩ := one_row w (factC v t) 23
  rw [hW0]
  clear hW0
  have P0 := Lib.hid f0
  have B0 := Lib.hid b0
  clear f0 b0
  go_wp2_with (first
      | (refine wpList_load_fact rfl _ rfl w.heap.size rfl v t P0.out ?_))
  refine (HS.out _ (HK.out.keep B0.out) (HE.out.keep B0.out hgE)).mono ?_
  rintro e W1 ⟨rfl, b1⟩
  have P1 := Lib.hid (Hl.row b1 P0.out)
  have B1 := Lib.hid (B0.out.trans (Below.mono b1 B0.out.size))
  clear P0 B0
  clear b1
  go_wp2_with (first
      | (refine wpList_load_fact rfl _ rfl w.heap.size rfl v t P1.out ?_))
  refine (HC.out _).mono ?_
  rintro e W2 ⟨rfl, b2⟩
  have P2 := Lib.hid (Hl.row b2 P1.out)
  have B2 := Lib.hid (B1.out.trans (Below.mono b2 B1.out.size))
  clear P1 B1
  clear b2
  go_wp2_with (first
      | (refine wpList_load_fact rfl _ rfl w.heap.size rfl v t P2.out ?_))
  refine (CE.out _).mono ?_
  rintro e W3 ⟨rfl, b3⟩
  have P3 := Lib.hid (Hl.row b3 P2.out)
  have B3 := Lib.hid (B2.out.trans (Below.mono b3 B2.out.size))
  clear P2 B2
  clear b3
  go_upto_region 6 with (first
      | (refine wpList_load_fact rfl _ rfl w.heap.size rfl v t P3.out ?_))
  have hx : m.extract 0 (min (m.size : Int) 20).toNat = M := by rw [HM.out]; congr 1; omega
  rw [hx]
  clear hx
  go_wp2_with (first
      | (refine wpList_load_fact rfl _ rfl w.heap.size rfl v t P3.out ?_))
  refine (HP.out _).mono ?_
  rintro e W' ⟨rfl, rfl⟩
  go_wp2_with (first
      | (refine wpList_load_fact rfl _ rfl w.heap.size rfl v t P3.out ?_))
  refine (HD1.out _ (HE.out.keep B3.out hgE)).mono ?_
  rintro e W4 ⟨rfl, b4⟩
  have P4 := Lib.hid (Hl.row b4 P3.out)
  have B4 := Lib.hid (B3.out.trans (Below.mono b4 B3.out.size))
  clear P3 B3
  clear b4
  have honeF := factC_one zeroV ⟨#[]⟩
  go_upto_region 7 with (first
      | (refine wpList_store_row rfl 23 _ _ rfl W4.heap.size (factC zeroV ⟨#[]⟩) rfl rfl 23 _ (heap_new W4 _) (hiC _ _) rfl honeF ?_)
      | (refine wpList_load_fact rfl _ rfl w.heap.size rfl v t P4.out ?_))
  have hltPF : w.heap.size < W4.heap.size := (Array.getElem?_eq_some_iff.1 P4.out).1
  have hBF : w.heap.size ≤ W4.heap.size := B4.out.size
  obtain ⟨W5, hW5, P5, F5, B5, hs5⟩ : ∃ W5, (W4.alloc (.cells (factC zeroV ⟨#[]⟩) 23)).setRow W4.heap.size (factC zeroV ⟨#[]⟩) = W5 ∧ Hid (W5.heap[w.heap.size]? = some (.cells (factC v t) 23 (0, 0))) ∧ Hid (W5.heap[W4.heap.size]? = some (.cells (factC zeroV ⟨#[]⟩) 23 (0, 0))) ∧ Hid (Below w.heap.size w W5) ∧ Hid (W4.heap.size < W5.heap.size) :=
    ⟨_, rfl, Lib.hid ((setRow_other _ _ _ _ (Nat.ne_of_lt (Array.getElem?_eq_some_iff.1 P4.out).1)).trans (row_aft _ _ _ _ P4.out)), Lib.hid (setRow_heap _ _ _ _ _ _ (heap_new W4 _)), Lib.hid (below_setRow' (B4.out.alloc B4.out.size _) _ _ B4.out.size), Lib.hid (by simp)⟩
  rw [hW5]
  clear hW5 P4 B4
  have hleF := hBF
  clear hBF
  generalize W4.heap.size = AF at *
  go_wp2_with (first
      | (refine wpList_load_fact rfl _ rfl w.heap.size rfl v t P5.out ?_)
      | (refine wpList_load_fact rfl _ rfl AF rfl zeroV ⟨#[]⟩ F5.out ?_))
  refine (HD2.out _ (HE.out.keep B5.out hgE)).mono ?_
  rintro e W6 ⟨rfl, b6⟩
  have P6 := Lib.hid (Hl.row b6 P5.out)
  have F6 := Lib.hid (Hl.row b6 F5.out)
  have B6 := Lib.hid (B5.out.trans (Below.mono b6 B5.out.size))
  clear P5 F5 B5
  clear b6
  have honeG := factC_one zeroV ⟨#[]⟩
  go_upto_region 8 with (first
      | (refine wpList_store_row rfl 23 _ _ rfl W6.heap.size (factC zeroV ⟨#[]⟩) rfl rfl 23 _ (heap_new W6 _) (hiC _ _) rfl honeG ?_)
      | (refine wpList_load_fact rfl _ rfl w.heap.size rfl v t P6.out ?_)
      | (refine wpList_load_fact rfl _ rfl AF rfl zeroV ⟨#[]⟩ F6.out ?_))
  have hltPG : w.heap.size < W6.heap.size := (Array.getElem?_eq_some_iff.1 P6.out).1
  have hltFG : AF < W6.heap.size := (Array.getElem?_eq_some_iff.1 F6.out).1
  have hBG : w.heap.size ≤ W6.heap.size := B6.out.size
  obtain ⟨W7, hW7, P7, F7, G7, B7, hs7⟩ : ∃ W7, (W6.alloc (.cells (factC zeroV ⟨#[]⟩) 23)).setRow W6.heap.size (factC zeroV ⟨#[]⟩) = W7 ∧ Hid (W7.heap[w.heap.size]? = some (.cells (factC v t) 23 (0, 0))) ∧ Hid (W7.heap[AF]? = some (.cells (factC zeroV ⟨#[]⟩) 23 (0, 0))) ∧ Hid (W7.heap[W6.heap.size]? = some (.cells (factC zeroV ⟨#[]⟩) 23 (0, 0))) ∧ Hid (Below w.heap.size w W7) ∧ Hid (W6.heap.size < W7.heap.size) :=
    ⟨_, rfl, Lib.hid ((setRow_other _ _ _ _ (Nat.ne_of_lt (Array.getElem?_eq_some_iff.1 P6.out).1)).trans (row_aft _ _ _ _ P6.out)), Lib.hid ((setRow_other _ _ _ _ (Nat.ne_of_lt (Array.getElem?_eq_some_iff.1 F6.out).1)).trans (row_aft _ _ _ _ F6.out)), Lib.hid (setRow_heap _ _ _ _ _ _ (heap_new W6 _)), Lib.hid (below_setRow' (B6.out.alloc B6.out.size _) _ _ B6.out.size), Lib.hid (by simp)⟩
  rw [hW7]
  clear hW7 P6 F6 B6
  have hleG := hBG
  clear hBG
  generalize W6.heap.size = AG at *
  go_wp2_with (first
      | (refine wpList_load_fact rfl _ rfl w.heap.size rfl v t P7.out ?_)
      | (refine wpList_load_fact rfl _ rfl AF rfl zeroV ⟨#[]⟩ F7.out ?_)
      | (refine wpList_load_fact rfl _ rfl AG rfl zeroV ⟨#[]⟩ G7.out ?_))
  go_ret
  exact ⟨rfl, B7.out⟩

theorem pref_walk (v : Nat → Int) (t : ByteArray) (n : Int) (m : ByteArray) (w : World) (a : Addr) (hK : Konst w) (hE : ErrK a w) (_ : Ints v) (ht : t.size ≤ 9223372036854775807) (hn0 : -9223372036854775808 ≤ n) (hn1 : n ≤ 9223372036854775807) (hm : m.size ≤ 9223372036854775807) :
    Calls Tryd.prog 8 #[.agg (factC v t), .int .i64 n, .string m] w fun e W' => e = .returned (.bool true) ∧ Below w.heap.size w W' := by
  rcases hok : okT v (cutT t) with _ | _
  · exact pref_bad v t n m w a hK hE ht hn0 hn1 hm hok
  · rcases Nat.eq_zero_or_pos (cutM m).size with h | h
    · exact pref_empty v t n m w a hK hE ht hn0 hn1 hm hok h
    · exact pref_more v t n m w a hK hE ht hn0 hn1 hm hok h

end Go.Proofs.YtnbeebndcgoalaaDoor
