/- The contract of the laws' heads: the strings that are digested for the head of a list of records, the last one first, and the head. Condition: the table of constants reads as the program lays it. -/
import Derived.Test.YtinioifhbafngaaDoorWay
namespace Go.Proofs.YtinioifhbafngaaDoor
open Go.RowKit

theorem made_zero (N : Nat) : madeCells #[Value.int .u8 0] N = (cells8 (List.replicate N 0)).toArray := by
  apply Array.ext'
  simp [madeCells, cells8]
  apply List.ext_getElem (by simp)
  intro i h1 h2
  simp [Nat.mod_one]
theorem zero32_made : madeCells #[Value.int .u8 0] 32 = (cells8 zero32).toArray := made_zero 32
theorem rev_take (l : List Bs) (i : Nat) (h : i < l.length) : (l.take (i + 1)).reverse = l.getD i [] :: (l.take i).reverse := by
  rw [List.take_succ_eq_append_getElem h, List.reverse_append, List.getD_eq_getElem?_getD, List.getElem?_eq_getElem h]
  rfl

set_option maxRecDepth 100000 in
set_option maxHeartbeats 4000000 in
theorem heads_main (l : List Bs) (A : Option Addr) (c : Nat) (w : World) (hK : HK w) (hl : l.length ≤ 100) (hc : l.length ≤ c) (hs : HS w A l) (hA : Lies A c l.length) (hx : ∀ x ∈ l, x.length ≤ 60) :
    Calls Tryd.prog 33 #[.slice A l.length c] w fun e W' =>
      (∃ v, e = .returned (.tuple #[v, .string ⟨(headR shaF l.reverse).toArray⟩]) ∧ RowS W' w.heap.size v (chainR shaF l.reverse)) ∧ Below w.heap.size w W' := by
  have hmk := run_make_row' (P := Tryd.prog) 42 5 (.int .u8 0) 1 Tryd.underlying42 (by kernel_rfl) rfl .i64 .i64 32 (by omega) (by omega) w
  rw [zero32_made] at hmk
  obtain ⟨W1, hW1, a1, b1⟩ : ∃ W1, w.alloc (.cells (cells8 zero32).toArray 5) = W1 ∧ Hid (Arr8 W1 w.heap.size 5 zero32) ∧ Hld w W1 :=
    ⟨_, rfl, Lib.hid (heap_alloc_new w _), (Hld.refl w).alloc _⟩
  rw [hW1] at hmk
  have hmk2 : (Instr.makeSlice 42 (.int .i64 32) (.int .i64 32)).run Tryd.prog w = .ok (.slice (some ⟨w.heap.size, 0, none⟩) 32 32) W1 := hmk
  clear hmk
  have hcv := run_convert_bytes_arg (P := Tryd.prog) W1 42 5 Tryd.underlying42 Tryd.underlying5 w.heap.size 0 32 32 (zero32.map fun b => ((b.toNat : Nat) : Int)) (by decide) (fun j hj => by
    rw [Nat.zero_add, a1.out.cell j hj]
    have hj2 : j < zero32.length := hj
    simp [List.getElem?_map, List.getElem?_eq_getElem hj2]) 9 Tryd.underlying9
  rw [str_bytes] at hcv
  clear hW1 a1
  have HC : Hid (∀ w' i, Hld w w' → i < l.length → ∃ g, A = some ⟨g, 0, none⟩ ∧ w'.cell? ⟨g, i, none⟩ = some (.string ⟨(l.getD i []).toArray⟩)) := Lib.hid fun w' i h hi => by
    have hA' : ∃ g, A = some ⟨g, 0, none⟩ := by
      rcases hA with ⟨_, _, h⟩ | h
      · omega
      · exact h
    obtain ⟨g, rfl⟩ := hA'
    exact ⟨g, rfl, (hs.keep (Hid.out h)).cellAt i hi⟩
  have HM : Hid (∀ i, i < l.length → (l.getD i []).length ≤ 60) := Lib.hid fun i hi => hx _ (by rw [List.getD_eq_getElem?_getD, List.getElem?_eq_getElem hi]; exact List.getElem_mem _)
  have HT := Lib.hid (rev_take l)
  have HEnd : Hid (l.take l.length = l) := Lib.hid (List.take_length)
  clear hs hA hx
  obtain ⟨n, hn⟩ : ∃ n, l.length = n := ⟨_, rfl⟩
  rw [hn] at hl hc HC HM HT HEnd
  rw [hn]
  clear hn
  go_enter Tryd.func33, Tryd.ntmps33
  go_wp2_with fail
  go_loopw [4, 5, 6] (fun hv ov iv wr => ∃ i : Nat, i ≤ n ∧ iv = .int .i64 i ∧ hv = .string ⟨(headR shaF (l.take i).reverse).toArray⟩ ∧ (chainR shaF (l.take i).reverse).length = i ∧ Hid (RowS wr w.heap.size ov (chainR shaF (l.take i).reverse)) ∧ Hld w wr) (fun _ _ iv _ => n - (intOf iv).toNat)
  case atStart => exact ⟨0, by omega, rfl, rfl, rfl, Lib.hid (RowS.nil _ _), b1⟩
  case round =>
    obtain ⟨i, hi, rfl, rfl, hcl, Hv, aR⟩ := hrel
    by_cases hlt : i < n
    · obtain ⟨g, rfl, c1⟩ := HC.out wr i aR hlt
      have m1 := HM.out i hlt
      have Ht := Lib.hid (HT.out i hlt)
      have HC2 : Hid (∀ w', Hld w w' → w'.cell? ⟨g, i, none⟩ = some (.string ⟨(l.getD i []).toArray⟩)) := Lib.hid fun w' h => by
        obtain ⟨g', he, hc⟩ := HC.out w' i h hlt
        have he2 := Option.some.inj he
        injection he2 with h1 h2 h3
        subst h1
        exact hc
      have HHl := Lib.hid (head_length shaF shaF_length (l.take i).reverse)
      have HHe : Hid (headR shaF (l.take (i + 1)).reverse = chainF shaF (headR shaF (l.take i).reverse) (l.getD i [])) := Lib.hid (by rw [HT.out i hlt]; rfl)
      have HCe : Hid (chainR shaF (l.take (i + 1)).reverse = (2 :: (headR shaF (l.take i).reverse ++ l.getD i [])) :: chainR shaF (l.take i).reverse) := Lib.hid (by rw [HT.out i hlt]; rfl)
      generalize headR shaF (l.take i).reverse = h at *
      generalize chainR shaF (l.take i).reverse = L at *
      generalize l.getD i [] = x at *
      generalize hX : (⟨x.toArray⟩ : ByteArray) = X at *
      have HX : Hid (X.data.toList = x) := Lib.hid (by rw [← hX])
      have hXz : X.size ≤ 60 := by rw [← hX]; exact m1
      generalize hH : (⟨h.toArray⟩ : ByteArray) = H at *
      have HH : Hid (H.data.toList = h) := Lib.hid (by rw [← hH])
      have hHz : H.size ≤ 60 := by rw [← hH, mk_size, HHl.out]; omega
      have HB := Lib.hid (two_bytes 2 H X)
      clear hX hH
      obtain ⟨A5, c5, rfl, hc5, t5, hA5⟩ := (Hid.out Hv).lies
      obtain ⟨v3, w3, hr3, hv3, hg3⟩ := append_rows w.heap.size (wr.alloc (.cells #[.string ((⟨#[2]⟩ : ByteArray) ++ H ++ X)] 9)) (RowS.oneB wr w.heap.size aR.size ((⟨#[2]⟩ : ByteArray) ++ H ++ X)) (m := L) (A := A5) (c := c5) (Hid.out (t5.keep ((Below.refl _ wr).alloc (Nat.le_refl _) _))) hA5 (aR.alloc _).size (by simp; omega) 26
      have a3 : Hld w w3 := (aR.alloc _).grown hg3 (RowS.oneB wr w.heap.size aR.size ((⟨#[2]⟩ : ByteArray) ++ H ++ X)).lt
      have c3 : w3.cell? ⟨g, i, none⟩ = some (.string X) := HC2.out w3 a3
      rw [HB.out, HH.out, HX.out] at hv3
      have k1 : (i : Int) < (n : Int) := by omega
      have k2 : (n : Int) ≤ (c : Int) := by omega
      go_wp2_with (at_builtin; refine wpList_append_run rfl _ _ 26 rfl _ _ rfl rfl hr3 ?_)
      refine (Chain_calls H X _ (Hid.out (hK.keep (Hid.out a3))) (by omega) (by omega)).mono ?_
      rintro e w4 ⟨rfl, b4⟩
      have hv4 := hv3.below b4
      go_wp2_with fail
      exact ⟨⟨i + 1, by omega, by go_num, by rw [HHe.out, HH.out, HX.out], by rw [HCe.out, List.length_cons, hcl], Lib.hid (by rw [HCe.out]; exact hv4), a3.step b4⟩, by simp [intOf]; omega⟩
    · obtain rfl : i = n := by omega
      have He := HEnd.out
      rw [He] at Hv
      rw [He]
      go_wp2_with fail
      refine bodyPost_ret (results_tmp2 rfl _ _ _) rfl ?_
      exact ⟨⟨_, rfl, Hid.out Hv⟩, Hid.out aR⟩
end Go.Proofs.YtinioifhbafngaaDoor
