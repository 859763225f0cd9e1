/- The contract of the laws' few: a row of its own with at most n strings, each cut to 60 bytes. -/
import Derived.Test.YtinioifhbafngaaDoorRefRoot
import Derived.Lib.Strings
namespace Go.Proofs.YtinioifhbafngaaDoor
open Go.RowKit

def cellsS (l : List Bs) : List Value := l.map fun x => .string ⟨x.toArray⟩
theorem cellsS_snoc (l : List Bs) (x : Bs) : cellsS (l ++ [x]) = cellsS l ++ [.string ⟨x.toArray⟩] := by
  unfold cellsS; rw [List.map_append]; rfl
theorem cellsS_length (l : List Bs) : (cellsS l).length = l.length := by unfold cellsS; simp
def fewL (l : List Bs) (n : Nat) : List Bs := (l.take n).map (·.take 60)
theorem fewL_snoc (l : List Bs) (n k : Nat) (h : k < l.length) (h2 : k < n) : (fewL l n).take (k + 1) = (fewL l n).take k ++ [(l.getD k []).take 60] := by
  have hl : k < (fewL l n).length := by unfold fewL; rw [List.length_map, List.length_take]; omega
  rw [List.take_succ_eq_append_getElem hl]
  unfold fewL
  simp [List.getD_eq_getElem?_getD, List.getElem?_eq_getElem h]
theorem cut60 (x : Bs) : (⟨x.toArray⟩ : ByteArray).extract 0 (min ((⟨x.toArray⟩ : ByteArray).size : Int) 60).toNat = ⟨(x.take 60).toArray⟩ := by
  apply ByteArray.ext
  apply Array.ext'
  rw [Lib.extract_data]
  rw [mk_size]
  simp only [List.drop_zero, Nat.sub_zero]
  by_cases h : x.length ≤ 60
  · rw [show (min (x.length : Int) 60).toNat = x.length by omega, List.take_of_length_le h]; simp
  · rw [show (min (x.length : Int) 60).toNat = 60 by omega]

theorem run_min2 (ts : Array TypeId) (t : TypeId) (x y : Int) (w : World) : (Builtin.min_ ts t #[.int .i64 x, .int .i64 y]).run Tryd.prog w = .ok (.int .i64 (min x y)) w := by
  have h : (if y < x then y else x) = min x y := by split <;> omega
  rw [← h]
  simp [Builtin.min_, Builtin.min2]

set_option maxRecDepth 100000 in
set_option maxHeartbeats 4000000 in
theorem few_main (l : List Bs) (b o cap n : Nat) (w : World) (hn : n ≤ 100) (hs : StrsAt w b o l) (hx : ∀ x ∈ l, x.length ≤ 9223372036854775807) (hl : l.length ≤ 9223372036854775807) :
    Calls Tryd.prog 20 #[.slice (some ⟨b, o, none⟩) l.length cap, .int .i64 (n : Int)] w fun e W' => (∃ v, e = .returned v ∧ W'.ownsRow w.heap.size 9 1 v (fewL l n).length (cellsS (fewL l n))) ∧ Below w.heap.size w W' := by
  obtain ⟨i0, hi, hz0, hz1, hz2⟩ := info_parts (show (Tryd.prog.info? 9).map (fun i => (i.zero, i.size, i.bytes)) = some (some (.string ⟨#[]⟩), 1, 16) from by kernel_rfl)
  have Hs := Lib.hid hs
  have Hx := Lib.hid hx
  have HF : Hid ((fewL l n).length = min n l.length) := Lib.hid (by unfold fewL; rw [List.length_map, List.length_take])
  clear hs hx
  go_enter Tryd.func20, Tryd.ntmps20
  go_wp2_with fail
  go_loopw [5, 6] (fun ov iv wr => ∃ k : Nat, k ≤ l.length ∧ k ≤ n ∧ iv = .int .i64 k ∧ Hid (wr.ownsRow w.heap.size 9 1 ov k (cellsS ((fewL l n).take k))) ∧ Below w.heap.size w wr)
    (fun _ iv _ => n - (intOf iv).toNat)
  case atStart => exact ⟨0, by omega, by omega, rfl, Lib.hid (World.ownsRow_nil _ _ _ _), Below.refl _ _⟩
  case round =>
    obtain ⟨k, hk1, hk2, rfl, Ho, bR⟩ := hrel
    by_cases hlt : k < l.length ∧ k < n
    · obtain ⟨hl1, hl2⟩ := hlt
      have c1 : wr.cell? ⟨b, o + k, none⟩ = _ := (Hs.out.keep bR) k hl1
      have Hc := Lib.hid (fewL_snoc l n k hl1 hl2)
      have hxl : (l.getD k []).length ≤ 9223372036854775807 := Hx.out _ (by
        rw [List.getD_eq_getElem?_getD, List.getElem?_eq_getElem hl1]; exact List.getElem_mem _)
      generalize l.getD k [] = x at *
      have Hcut := Lib.hid (cut60 x)
      obtain ⟨t, ht⟩ : ∃ t : ByteArray, (⟨x.toArray⟩ : ByteArray) = t := ⟨_, rfl⟩
      have hts : t.size ≤ 9223372036854775807 := by rw [← ht]; exact hxl
      rw [ht] at c1 Hcut
      clear ht
      have hp1 : u5.ownBlock ≠ some b := fun e => by
        have h1 := (Ho.out.lt b e).1
        have h2 : b < w.heap.size := lt_of_cell (Hs.out k hl1)
        omega
      have hsz := Lib.hid bR.size
      have hf1 := Lib.hid (lt_of_cell c1)
      have h63 : k + 1 ≤ maxLen := by unfold maxLen; omega
      have hby : (k + 1) * 16 ≤ 140737488355328 := by omega
      have k1 : (k : Int) < (l.length : Int) := by omega
      have k2 : (k : Int) < (n : Int) := by omega
      have k0 : 0 ≤ (k : Int) := by omega
      obtain ⟨N, hN⟩ : ∃ N : Nat, min (t.size : Int) 60 = (N : Int) := ⟨min t.size 60, by omega⟩
      have hm1 : (0 : Int) ≤ (N : Int) := by omega
      have hm2 : (N : Int) ≤ (t.size : Int) := by omega
      have hm3 : N ≤ t.size := by omega
      rw [hN, Int.toNat_natCast] at Hcut
      have hmin : ∀ ts ty W, (Builtin.min_ ts ty #[.int .i64 (t.size : Int), .int .i64 60]).run Tryd.prog W = .ok (.int .i64 (N : Int)) W := fun ts ty W => by rw [run_min2, hN]
      clear hN
      go_wp2_with fail
      go_region_held3 (fun w' => w'.cell? ⟨b, o + k, none⟩ = some (.string t))
        (first
          | go_keep
          | (rw [hgrow.cell_far _ (by simp; have := hf1.out; omega) (Ne.symm hp1)]; assumption))
        ((refine step_append_lies _ (by rfl) _ _ _ (by rfl) w.heap.size 9 i0 _ 1 16 Tryd.underlying26 hi hz0 hz1 hz2 rfl (by omega) u5 k _ (by rfl) ((Ho.out.alloc _).drew)
              ⟨wr.heap.size, 0, none⟩ 1 1 [.string (t.extract 0 N)] (by rfl) (by rfl)
              (World.news_of_block (cs := #[.string (t.extract 0 N)]) (t := 9) (fr := (0, 0)) (heap_alloc_new wr _)) (by simp [Value.oneCell'])
              (by omega) h63 hby (by simp; have := hsz.out; omega) (wr.heap.size + 1) (by simp) ?_; intro gg cap w1 hown1 hgrow hat hlt))
      all_goals
        have bS : Below w.heap.size w w1 := ((bR.alloc bR.size _).drew).grown hgrow (by have := hsz.out; simp; omega) (fun q e => (Ho.out.lt q e).1)
        rw [Hcut.out, ← cellsS_snoc, ← Hc.out] at hown1
        have Hown := Lib.hid hown1
        clear hown1 hgrow hat hlt c1 hp1 hm1 hm2 hm3 hmin
        go_wp2_with fail
        go_roundw
        case rel => exact ⟨k + 1, by omega, by omega, by go_num, Hown, bS⟩
        case measure => simp [intOf]; omega
    · have hk : k = (fewL l n).length := by have := HF.out; omega
      have He := Lib.hid (show wr.ownsRow w.heap.size 9 1 u5 (fewL l n).length (cellsS (fewL l n)) from by
        have h := Ho.out
        rw [hk, List.take_of_length_le (Nat.le_refl _)] at h
        exact h)
      clear Ho hk
      by_cases h1 : k < l.length
      · have g1 : (k : Int) < (l.length : Int) := by omega
        have g2 : (n : Int) ≤ (k : Int) := by omega
        clear hlt
        go_wp2_with fail
        go_ret
        exact ⟨⟨_, rfl, He.out⟩, bR⟩
      · have g1 : (l.length : Int) ≤ (k : Int) := by omega
        clear hlt h1
        go_wp2_with fail
        go_ret
        exact ⟨⟨_, rfl, He.out⟩, bR⟩

theorem few_nil (A : Option Addr) (cap n : Nat) (w : World) :
    Calls Tryd.prog 20 #[.slice A 0 cap, .int .i64 (n : Int)] w fun e W' => e = .returned (.slice none 0 0) ∧ Below w.heap.size w W' := by
  go_enter Tryd.func20, Tryd.ntmps20
  go_wp2_with fail
  go_loop [5, 6] (fun ov iv => ov = .slice none 0 0 ∧ iv = .int .i64 0) (fun _ _ => 0)
  case atStart => exact ⟨rfl, rfl⟩
  case round =>
    obtain ⟨rfl, rfl⟩ := hrel
    go_wp2_with fail
    go_ret
    exact ⟨rfl, Below.refl _ _⟩
end Go.Proofs.YtinioifhbafngaaDoor
