/- The contracts of the reference's Lists and Facts. -/
import Derived.Test.YtngkfopdlkddnaaK37
namespace Go.Proofs.Ytngkfopdlkddnaa
open Go Go.RowKit Go.Maps
set_option maxRecDepth 100000 in
set_option maxHeartbeats 4000000 in
theorem Lists_calls (vs : Nat → Value) (w : World) (hv : ∀ k, k < 10 → ∃ A n cap, vs k = .slice A n cap) :
    Calls Try.prog 29 #[.agg (cells10 vs)] w fun e W' => ∃ g, e = .returned (.slice (some ⟨g, 0, none⟩) 10 10) ∧ w.heap.size ≤ g ∧ W'.heap[g]? = some (.cells (cells10 vs) 23 (0, 0)) ∧ Below w.heap.size w W' := by
  obtain ⟨A0, n0, c0, h0⟩ := hv 0 (by omega)
  obtain ⟨A1, n1, c1, h1⟩ := hv 1 (by omega)
  obtain ⟨A2, n2, c2, h2⟩ := hv 2 (by omega)
  obtain ⟨A3, n3, c3, h3⟩ := hv 3 (by omega)
  obtain ⟨A4, n4, c4, h4⟩ := hv 4 (by omega)
  obtain ⟨A5, n5, c5, h5⟩ := hv 5 (by omega)
  obtain ⟨A6, n6, c6, h6⟩ := hv 6 (by omega)
  obtain ⟨A7, n7, c7, h7⟩ := hv 7 (by omega)
  obtain ⟨A8, n8, c8, h8⟩ := hv 8 (by omega)
  obtain ⟨A9, n9, c9, h9⟩ := hv 9 (by omega)
  have e : cells10 vs = #[.slice A0 n0 c0, .slice A1 n1 c1, .slice A2 n2 c2, .slice A3 n3 c3, .slice A4 n4 c4, .slice A5 n5 c5, .slice A6 n6 c6, .slice A7 n7 c7, .slice A8 n8 c8, .slice A9 n9 c9] := by
    unfold cells10
    rw [h0, h1, h2, h3, h4, h5, h6, h7, h8, h9]
  rw [e]
  clear e h0 h1 h2 h3 h4 h5 h6 h7 h8 h9 hv
  go_enter Try.func29, Try.ntmps29
  go_upto_region 1 with (fail)
  obtain ⟨W0, hW0, f0, b0⟩ := one_row w #[.slice A0 n0 c0, .slice A1 n1 c1, .slice A2 n2 c2, .slice A3 n3 c3, .slice A4 n4 c4, .slice A5 n5 c5, .slice A6 n6 c6, .slice A7 n7 c7, .slice A8 n8 c8, .slice A9 n9 c9] 32
  rw [hW0]
  clear hW0
  have x0 : W0.cell? ⟨w.heap.size, 0, none⟩ = some (.slice A0 n0 c0) := by rw [cell_of_row _ _ _ _ _ _ f0]; rfl
  have x1 : W0.cell? ⟨w.heap.size, 1, none⟩ = some (.slice A1 n1 c1) := by rw [cell_of_row _ _ _ _ _ _ f0]; rfl
  have x2 : W0.cell? ⟨w.heap.size, 2, none⟩ = some (.slice A2 n2 c2) := by rw [cell_of_row _ _ _ _ _ _ f0]; rfl
  have x3 : W0.cell? ⟨w.heap.size, 3, none⟩ = some (.slice A3 n3 c3) := by rw [cell_of_row _ _ _ _ _ _ f0]; rfl
  have x4 : W0.cell? ⟨w.heap.size, 4, none⟩ = some (.slice A4 n4 c4) := by rw [cell_of_row _ _ _ _ _ _ f0]; rfl
  have x5 : W0.cell? ⟨w.heap.size, 5, none⟩ = some (.slice A5 n5 c5) := by rw [cell_of_row _ _ _ _ _ _ f0]; rfl
  have x6 : W0.cell? ⟨w.heap.size, 6, none⟩ = some (.slice A6 n6 c6) := by rw [cell_of_row _ _ _ _ _ _ f0]; rfl
  have x7 : W0.cell? ⟨w.heap.size, 7, none⟩ = some (.slice A7 n7 c7) := by rw [cell_of_row _ _ _ _ _ _ f0]; rfl
  have x8 : W0.cell? ⟨w.heap.size, 8, none⟩ = some (.slice A8 n8 c8) := by rw [cell_of_row _ _ _ _ _ _ f0]; rfl
  have x9 : W0.cell? ⟨w.heap.size, 9, none⟩ = some (.slice A9 n9 c9) := by rw [cell_of_row _ _ _ _ _ _ f0]; rfl
  have B0 := Lib.hid b0
  clear f0 b0
  go_wp2_with fail
  go_ret
  exact ⟨_, rfl, B0.out.size, heap_new W0 _, B0.out.alloc B0.out.size _⟩
/-- The facts of a base. -/
def facts10 (Ls : Nat → List Fa) (n : Nat) : List Fa := (List.range n).flatMap Ls
theorem facts10_succ (Ls : Nat → List Fa) (n : Nat) : facts10 Ls (n + 1) = facts10 Ls n ++ Ls n := by unfold facts10; rw [List.range_succ, List.flatMap_append]; simp
theorem facts10_len (Ls : Nat → List Fa) (h : ∀ k, k < 10 → (Ls k).length ≤ 10000) : ∀ n, n ≤ 10 → (facts10 Ls n).length ≤ n * 10000
  | 0, _ => by simp [facts10]
  | n + 1, hn => by
    rw [facts10_succ, List.length_append]
    have := facts10_len Ls h n (by omega)
    have := h n (by omega)
    omega
set_option maxRecDepth 100000 in
set_option maxHeartbeats 4000000 in
theorem Facts10_calls (vs : Nat → Value) (Ls : Nat → List Fa) (base : Nat) (w : World) (hv : ∀ k, k < 10 → RowA w base (vs k) (Ls k)) (hl : ∀ k, k < 10 → (Ls k).length ≤ 10000) :
    Calls Try.prog 12 #[.agg (cells10 vs)] w fun e W' => ∃ v, e = .returned v ∧ RowA W' w.heap.size v (facts10 Ls 10) ∧ Below w.heap.size w W' := by
  have HV := Lib.hid hv
  have HS := Lib.hid (show ∀ k, k < 10 → ∃ A n cap, vs k = .slice A n cap from fun k hk => by obtain ⟨A, cap, e, _⟩ := RowA.slice (hv k hk); exact ⟨A, _, cap, e⟩)
  have HLN := Lib.hid (facts10_len Ls hl)
  have HL := Lib.hid hl
  clear hv hl
  go_enter Try.func12, Try.ntmps12
  go_upto_region 2 with (fail)
  obtain ⟨W0, hW0, f0, b0⟩ := one_row w (cells10 vs) 32
  rw [hW0]
  have F0 := Lib.hid f0
  have B0 := Lib.hid b0
  have hi10 : (Try.prog.info? 32).map (·.size) = some (cells10 vs).size := info10
  clear hW0 f0 b0
  go_wp2_with (refine wpList_load_base rfl _ rfl w.heap.size rfl _ F0.out ?_)
  refine (Lists_calls vs W0 HS.out).mono ?_
  rintro e W1 ⟨g, rfl, hg, f1, b1⟩
  have F1 := Lib.hid f1
  have B1 := Lib.hid (B0.out.trans (Below.mono b1 B0.out.size))
  clear f1 b1 hi10 F0
  go_upto_region 4 with (fail)
  go_loopw [5, 3] (fun iv hv wr => ∃ i : Nat, i ≤ 10 ∧ iv = .int .i64 i ∧ Hid (RowA wr W1.heap.size hv (facts10 Ls i)) ∧ Hid (Below W1.heap.size W1 wr)) (fun iv _ _ => 10 - (intOf iv).toNat)
  case atStart => exact ⟨0, by omega, rfl, Lib.hid (RowA.nil _ _), Lib.hid (Below.refl _ _)⟩
  case round =>
    rename_i hv0
    obtain ⟨i, hi, rfl, HR, HW⟩ := hrel
    have i0 : (0 : Int) ≤ (i : Int) := by omega
    by_cases hlt : i < 10
    rotate_left
    · obtain rfl : i = 10 := by omega
      clear hlt hi
      go_wp2_with fail
      go_ret
      exact ⟨_, rfl, RowA.base HR.out B1.out.size, B1.out.trans (Below.mono HW.out B1.out.size)⟩
    · have i1 : (i : Int) < 10 := by omega
      have hrow := ((HV.out i hlt).below B1.out).below HW.out
      obtain ⟨A, cap, hva, hcap, -⟩ := RowA.slice (HV.out i hlt)
      have c1 : wr.cell? ⟨g, i, none⟩ = some (.slice A (Ls i).length cap) := by
        rw [cell_of_row _ _ _ _ _ _ (Hl.row HW.out F1.out), ← hva]; exact cells10_get vs hlt
      have hln := HLN.out i hi
      have hl2 := HL.out i hlt
      obtain ⟨v', w', happ, hrow', hgr⟩ := append_facts W1.heap.size base wr HR.out hrow HW.out.size (by omega) 23
      rw [hva] at happ
      have HR' := Lib.hid (show RowA w' W1.heap.size v' (facts10 Ls (i + 1)) by rw [facts10_succ]; exact hrow')
      have HW' := Lib.hid (HW.out.grown hgr HW.out.size (fun j e => RowA.lt HR.out j e))
      clear hrow hrow' hgr hva
      go_wp2_with (at_builtin; refine wpList_append_run rfl _ _ _ rfl _ _ rfl rfl happ ?_)
      go_roundw
      case rel => exact ⟨i + 1, by omega, by go_num, HR', HW'⟩
      case measure => simp [intOf]; omega
/-- What the facts of a base are. -/
theorem mem_facts10 {l : List Fa} {Ms : Nat → List Fx} (h : OfP l Ms) (x : Fx) : x ∈ (facts10 (fun k => (Ms k).map faX) 10).map nfX ↔ bestX (l.map nfX) (keyX x) = some x := by
  have e : x ∈ (facts10 (fun k => (Ms k).map faX) 10).map nfX ↔ ∃ k, k < 10 ∧ x ∈ Ms k := by
    unfold facts10
    rw [List.mem_map]
    constructor
    · rintro ⟨f, hf, rfl⟩
      obtain ⟨k, hk, hf⟩ := List.mem_flatMap.1 hf
      obtain ⟨y, hy, rfl⟩ := List.mem_map.1 hf
      exact ⟨k, List.mem_range.1 hk, by rw [nf_self]; exact hy⟩
    · rintro ⟨k, hk, hx⟩
      exact ⟨faX x, List.mem_flatMap.2 ⟨k, List.mem_range.2 hk, List.mem_map_of_mem hx⟩, nf_self x⟩
  rw [e]
  constructor
  · rintro ⟨k, hk, hx⟩
    exact (((h k hk).2 x).1 hx).1
  · intro hb
    have hs := Bs.best_some lawsX hb
    have hk := kind_ok hs.2.1
    refine ⟨((keyX x).1 - 1).toNat, by omega, ((h _ (by omega)).2 x).2 ⟨hb, by omega⟩⟩
theorem base_join {l m p : List Fa} {Ms Ns Ps Qs : Nat → List Fx} (hl : OfP l Ms) (hm : OfP m Ns) (hp : p = facts10 (fun k => (Ms k).map faX) 10 ++ facts10 (fun k => (Ns k).map faX) 10) (hP : OfP (l ++ m) Ps) (hQ : OfP p Qs) : ∀ k, k < 10 → Ps k = Qs k := fun k hk =>
  Bs.lst_unique orderK (fun key => by
    have := Bs.best_join lawsX (l := l.map nfX) (m := m.map nfX) (p := p.map nfX) (fun x => by
      rw [hp, List.map_append, List.mem_append, mem_facts10 hl, mem_facts10 hm]) key
    rw [List.map_append]
    exact this.symm) (hP k hk) (hQ k hk)
theorem wpList_append_runG {P : Program} {ops : Array Oper} {rest : List Oper} {o : Oper} {a : Act} {w : World} {Q : Exit → Act → World → Prop} (hw : Region.wanted o (yielded ops a.tmps) = true) (s x : Operand) (t : TypeId)
    (ho : o.op = .call { callee := .builtin .append, args := #[s, x], argTypes := #[t, t] }) (v u : Value) (hs : a.eval s = v) (hx : a.eval x = u) {v' : Value} {w' : World}
    (hr : (Builtin.append_ #[t, t] o.type #[v, u]).run P w = .ok v' w') (h : wpList P ops Q rest (a.put o.dst v') w') : wpList P ops Q (o :: rest) a w :=
  wpList_step fun _ hK => by
    rw [if_pos hw]
    exact wp_append_run s x t ho v u hs hx hr (hK _ _ h)
end Go.Proofs.Ytngkfopdlkddnaa
