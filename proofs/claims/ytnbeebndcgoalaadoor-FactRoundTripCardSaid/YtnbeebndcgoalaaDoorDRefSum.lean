/- The contract of the reference implementation's Sum: it returns the plain digest. Condition: at most a million bytes. -/
import Derived.Test.YtnbeebndcgoalaaDoorDBlk
namespace Go.Proofs.YtnbeebndcgoalaaDoor
open Go.RowKit
theorem padF_length (l : List UInt8) : (padF l).length = 64 * ((padF l).length / 64) := by
  have h : (padF l).length = l.length + 1 + padZ l.length + 8 := by simp [padF, be8]; omega
  have h2 : (l.length + 1 + padZ l.length + 8) % 64 = 0 := by unfold padZ; omega
  omega
theorem padF_le (l : List UInt8) : (padF l).length ≤ l.length + 72 := by
  have h : (padF l).length = l.length + 1 + padZ l.length + 8 := by simp [padF, be8]; omega
  have h2 : padZ l.length ≤ 63 := by unfold padZ; omega
  omega
theorem padF_pos (l : List UInt8) : 64 ≤ (padF l).length := by
  have h := padF_length l
  have h2 : (padF l).length = l.length + 1 + padZ l.length + 8 := by simp [padF, be8]; omega
  omega
theorem hashN_ok (b : List UInt8) (j : Nat) : okE (hashN b j) := by
  cases j with
  | zero => show okE initE; unfold okE initE; decide
  | succ j => exact addE_ok _ _
theorem BytesAt.keep {w w' : World} {b o : Nat} {l : List UInt8} (h : BytesAt w b o l) (hb : Below w.heap.size w w') : BytesAt w' b o l := fun i hi =>
  (hb.cell (p := ⟨b, o + i, none⟩) (lt_of_cell (h i hi))).trans (h i hi)
theorem BytesAt.part {w : World} {b k n : Nat} {l : List UInt8} (h : BytesAt w b 0 l) (hk : k + n ≤ l.length) : BytesAt w b k ((l.drop k).take n) := fun i hi => by
  have hn : i < n := by rw [List.length_take] at hi; omega
  have h1 := h (k + i) (by omega)
  rw [Nat.zero_add] at h1
  rw [h1]
  simp only [List.getD_eq_getElem?_getD, List.getElem?_take, List.getElem?_drop, if_pos hn]
theorem bytes_row {w : World} {base g n c : Nat} {l : List UInt8} (h : w.ownsRow base 5 1 (.slice (some ⟨g, 0, none⟩) n c) n (cells8 l)) : BytesAt w g 0 l := fun i hi => by
  have h1 : (cells8 l)[i]? = some (.int .u8 (((l.getD i 0).toNat : Nat) : Int)) := by
    unfold cells8
    rw [List.getElem?_map, List.getElem?_eq_getElem hi, List.getD_eq_getElem?_getD, List.getElem?_eq_getElem hi]
    rfl
  have h2 := World.ownsRow.cells h rfl _ _ h1
  have e : Addr.add ⟨g, 0, none⟩ i = ⟨g, 0 + i, none⟩ := by unfold Addr.add; split <;> simp_all
  rw [e] at h2
  exact h2
theorem bytesE_at (x : Eight) (k : Nat) (h : k < 8) : (bytesE x).take (4 * (k + 1)) = (bytesE x).take (4 * k) ++ be4 ((listE x).getD k 0) := by
  match k, h with
  | 0, _ => rfl
  | 1, _ => rfl
  | 2, _ => rfl
  | 3, _ => rfl
  | 4, _ => rfl
  | 5, _ => rfl
  | 6, _ => rfl
  | 7, _ => rfl
theorem be4_cells (n : Nat) : cells8 (be4 n) = [.int .u8 (IntKind.u8.wrap ((n : Int) / 16777216)), .int .u8 (IntKind.u8.wrap ((n : Int) / 65536)), .int .u8 (IntKind.u8.wrap ((n : Int) / 256)), .int .u8 (IntKind.u8.wrap (n : Int))] := by
  show cells8 (be4 n) = ([.int .u8 ((n : Int) / 16777216 % 256), .int .u8 ((n : Int) / 65536 % 256), .int .u8 ((n : Int) / 256 % 256), .int .u8 ((n : Int) % 256)] : List Value)
  unfold cells8 be4
  simp [Nat.shiftRight_eq_div_pow]
theorem cells8_append (a b : List UInt8) : cells8 (a ++ b) = cells8 a ++ cells8 b := by unfold cells8; rw [List.map_append]

set_option maxRecDepth 100000 in
set_option maxHeartbeats 8000000 in
theorem refSum_calls (s : ByteArray) (w : World) (hs : s.size ≤ 1000000) :
    Calls Tryd.prog 38 #[.string s] w fun e W' => e = .returned (.string ⟨(shaF s.data.toList).toArray⟩) ∧ Below w.heap.size w W' := by
  obtain ⟨i0, hi, hz0, hz1, hz2⟩ := info_parts (show (Tryd.prog.info? 5).map (fun i => (i.zero, i.size, i.bytes)) = some (some (.int .u8 0), 1, 1) from by kernel_rfl)
  obtain ⟨m, hm⟩ : ∃ m, (padF s.data.toList).length / 64 = m := ⟨_, rfl⟩
  have Hm := Lib.hid (show (padF s.data.toList).length = 64 * m by rw [← hm]; exact padF_length _)
  have hm1 : 1 ≤ m := by have h1 := padF_pos s.data.toList; have h2 := Hm.out; omega
  have hm2 : 64 * m ≤ 1000072 := by have h1 := padF_le s.data.toList; have h2 := Hm.out; simp at h1; omega
  have Hsha := Lib.hid (show shaF s.data.toList = bytesE (hashN (padF s.data.toList) m) by unfold shaF; rw [hm])
  clear hm
  go_enter Tryd.func38, Tryd.ntmps38
  go_wp2_with fail
  refine (extended_calls s _ hs).mono ?_
  rintro e w1 ⟨bv, rfl, hb, bA⟩
  rw [Hm.out] at hb
  obtain ⟨gb, cb, rfl, _⟩ := hb.form (by omega)
  have HB := Lib.hid (bytes_row hb)
  have hcap : 64 * m ≤ cb := by
    rcases hb.2 with ⟨h, _⟩ | ⟨g', c', cur, hv, _, _, hnc, _⟩
    · cases h
    · injection hv with _ _ h3
      omega
  have HI := Lib.hid ((words_new w (listE initE) 75).keep bA)
  have bB : Below w.heap.size w w1 := ((Below.refl _ _).alloc (Nat.le_refl _) _).trans (bA.mono (by simp))
  clear hb bA
  go_wp2_with fail
  go_loopw [3, 5] (fun hv iv wr => ∃ j gh ch : Nat, j ≤ m ∧ iv = .int .i64 ((64 * j : Nat) : Int) ∧ hv = .slice (some ⟨gh, 0, none⟩) 8 ch ∧ Hid (WordsAt wr gh 0 (listE (hashN (padF s.data.toList) j))) ∧ Hid (BytesAt wr gb 0 (padF s.data.toList)) ∧ Below w.heap.size w wr)
    (fun _ iv _ => 64 * m - (intOf iv).toNat)
  case atStart => exact ⟨0, w.heap.size, 8, by omega, rfl, rfl, HI, HB, bB⟩
  case round =>
    obtain ⟨j, gh, ch, hj, rfl, rfl, HH, HB, bR⟩ := hrel
    clear HI bB
    by_cases hlt : j < m
    · have Hbl : Hid ((((padF s.data.toList).drop (64 * j)).take 64).length = 64) := Lib.hid (by rw [List.length_take, List.length_drop, Hm.out]; omega)
      have HP := Lib.hid (HB.out.part (k := 64 * j) (n := 64) (by rw [Hm.out]; omega))
      have l1 : 64 * (j : Int) < 64 * (m : Int) := by omega
      have l2 : 64 * (j : Int) + 64 ≤ (cb : Int) := by omega
      have l3 : 64 * (j : Int) + 64 ≤ 64 * (m : Int) := by omega
      have l4 : ¬ cb = 64 * j := by omega
      go_wp2_with fail
      refine (block_calls (hashN (padF s.data.toList) j) _ gh gb (64 * j) ch _ wr Hbl.out (hashN_ok _ _) HH.out HP.out).mono ?_
      rintro e w2 ⟨hv, rfl, hr, b2⟩
      obtain ⟨g2, c2, rfl, _⟩ := hr.form (by omega)
      have HR : Hid (WordsAt w2 g2 0 (listE (hashN (padF s.data.toList) (j + 1)))) := Lib.hid (words_row hr)
      have HB2 := Lib.hid (HB.out.keep b2)
      have bS := bR.trans (b2.mono bR.size)
      clear hr b2 bR HB HH HP l1 l2 l3 l4
      go_wp2_with fail
      go_roundw
      case rel => exact ⟨j + 1, g2, c2, by omega, by go_num, rfl, HR, HB2, bS⟩
      case measure => simp [intOf]; omega
    · obtain rfl : j = m := by omega
      obtain ⟨x, hx⟩ : ∃ x, hashN (padF s.data.toList) j = x := ⟨_, rfl⟩
      rw [hx] at HH Hsha
      clear hx HB hlt hj
      have hgh := Lib.hid (show gh < wr.heap.size from lt_of_cell (HH.out 0 (show 0 < 8 by decide)))
      obtain ⟨ws, hws⟩ : ∃ ws : World, ws = wr := ⟨_, rfl⟩
      rw [← hws] at HH hgh bR
      have l0 : 64 * (j : Int) ≤ 64 * (j : Int) := by omega
      rw [show ((64 * j : Nat) : Int) = 64 * (j : Int) from by simp]
      go_wp2_with fail
      rw [← hws]
      clear hws
      go_loopw [6, 7] (fun ov iv wr => ∃ k : Nat, k ≤ 8 ∧ iv = .int .i64 k ∧ Hid (wr.ownsRow ws.heap.size 5 1 ov (4 * k) (cells8 ((bytesE x).take (4 * k)))) ∧ Below ws.heap.size ws wr)
        (fun _ iv _ => 8 - (intOf iv).toNat)
      case atStart => exact ⟨0, by omega, rfl, Lib.hid (World.ownsRow_nil _ _ _ _), Below.refl _ _⟩
      case round =>
        obtain ⟨k, hk, rfl, Ho, bT⟩ := hrel
        by_cases hlt : k < 8
        · have c1 : wr.cell? ⟨gh, 0 + k, none⟩ = _ := (HH.out.keep bT) k (show k < 8 from hlt)
          rw [Nat.zero_add] at c1
          have Hc := Lib.hid (bytesE_at x k hlt)
          generalize (listE x).getD k 0 = p at *
          have Hc4 := Lib.hid (be4_cells p)
          have hp1 : u6.ownBlock ≠ some gh := fun e => by
            have h1 := (Ho.out.lt gh e).1
            have h2 := hgh.out
            omega
          have hsz := Lib.hid bT.size
          have hf1 := Lib.hid (lt_of_cell c1)
          have h63 : 4 * k + 4 ≤ maxLen := by unfold maxLen; omega
          have hby : (4 * k + 4) * 1 ≤ 140737488355328 := by omega
          have k8 : (k : Int) < 8 := by omega
          have k0 : 0 ≤ (k : Int) := by omega
          go_wp2_with fail
          go_region_held3 (fun w' => w'.cell? ⟨gh, k, none⟩ = some (.int .u32 (p : Int)))
            (first
              | go_keep
              | (rw [hgrow.cell_far _ (by simp; have := hf1.out; omega) (Ne.symm hp1)]; assumption))
            ((refine step_append_lies _ (by rfl) _ _ _ (by rfl) ws.heap.size 5 i0 _ 1 1 Tryd.underlying69 hi hz0 hz1 hz2 rfl (by omega) u6 (4 * k) _ (by rfl) ((Ho.out.alloc _).drew)
                  ⟨wr.heap.size, 0, none⟩ 4 4 [.int .u8 (IntKind.u8.wrap ((p : Int) / 16777216)), .int .u8 (IntKind.u8.wrap ((p : Int) / 65536)), .int .u8 (IntKind.u8.wrap ((p : Int) / 256)), .int .u8 (IntKind.u8.wrap (p : Int))] (by rfl) (by rfl)
                  (World.news_of_block (cs := #[.int .u8 (IntKind.u8.wrap ((p : Int) / 16777216)), .int .u8 (IntKind.u8.wrap ((p : Int) / 65536)), .int .u8 (IntKind.u8.wrap ((p : Int) / 256)), .int .u8 (IntKind.u8.wrap (p : Int))]) (t := 5) (fr := (0, 0)) (heap_alloc_new wr _)) (by simp [Value.oneCell'])
                  (by omega) h63 hby (by simp; have := hsz.out; omega) (wr.heap.size + 1) (by simp) ?_; intro gg cap w1 hown1 hgrow hat hlt))
          all_goals
            have bS : Below ws.heap.size ws w1 := ((bT.alloc bT.size _).drew).grown hgrow (by have := hsz.out; simp; omega) (fun q e => (Ho.out.lt q e).1)
            rw [← Hc4.out, ← cells8_append, ← Hc.out] at hown1
            have Hown := Lib.hid hown1
            clear hown1 hgrow hat hlt c1 hp1
            go_wp2_with fail
            go_roundw
            case rel => exact ⟨k + 1, by omega, by go_num, Hown, bS⟩
            case measure => simp [intOf]; omega
        · obtain rfl : k = 8 := by omega
          have h := Ho.out
          rw [List.take_of_length_le (show (bytesE x).length ≤ 4 * 8 from Nat.le_refl _)] at h
          obtain ⟨g8, c8, rfl, _⟩ := h.form (by omega)
          have hcv := row_string (show (bytesE x).length = 4 * 8 from rfl) h
          have bE := bR.trans (bT.mono bR.size)
          clear h hlt hk Ho bT
          go_wp2_with fail
          go_ret
          exact ⟨by rw [Hsha.out]; rfl, bE⟩
end Go.Proofs.YtnbeebndcgoalaaDoor
