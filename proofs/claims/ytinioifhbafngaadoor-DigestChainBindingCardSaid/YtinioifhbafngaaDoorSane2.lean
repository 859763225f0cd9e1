/- The contract of the laws' sane: it returns true. Condition: the table of constants reads as the program lays it. -/
import Derived.Test.YtinioifhbafngaaDoorPart
import Derived.Test.YtinioifhbafngaaDoorTwo
import Derived.Test.YtinioifhbafngaaDoorHex
namespace Go.Proofs.YtinioifhbafngaaDoor
open Go.RowKit

abbrev abc3 : List Bs := [[97], [98], [99]]
theorem tri_proof (hs : Bs → Bs) : proofF hs abc3 2 = [nodeF hs (leafF hs [97]) (leafF hs [98])] := rfl
theorem tri_ext (hs : Bs → Bs) : extF hs abc3 1 = [leafF hs [98], leafF hs [99]] := rfl
theorem tri_root (hs : Bs → Bs) : rootF hs abc3 = nodeF hs (nodeF hs (leafF hs [97]) (leafF hs [98])) (leafF hs [99]) := rfl
theorem tri_val (hs : Bs → Bs) (s x : Bs) : valR hs [x] 3 2 s = (nodeF hs x (leafF hs s), true) := rfl
theorem tri_both (hs : Bs → Bs) (old x y : Bs) : bothR hs old [y, x] 1 3 true = (old, nodeF hs (nodeF hs old x) y, true) := rfl
theorem sha32 (s : Bs) : (shaF s).length = 32 := shaF_length s

theorem abc_at (w : World) : StrsAt (w.alloc (.cells #[.string ⟨#[97]⟩, .string ⟨#[98]⟩, .string ⟨#[99]⟩] 9)) w.heap.size 0 abc3 := fun i hi => by
  rw [cell_of_row _ _ _ _ _ _ (heap_alloc_new w _)]
  match i, hi with
  | 0, _ => rfl
  | 1, _ => rfl
  | 2, _ => rfl

theorem z1 (w : World) (hK : Konst w) : Calls Tryd.prog 12 #[.string ⟨#[]⟩] w fun e W' => e = .returned (.string ⟨#[227, 176, 196, 66, 152, 252, 28, 20, 154, 251, 244, 200, 153, 111, 185, 36, 39, 174, 65, 228, 100, 155, 147, 76, 164, 149, 153, 27, 120, 82, 184, 85]⟩) ∧ Below w.heap.size w W' := by
  have := Sum_calls ⟨#[]⟩ w hK (by decide)
  rw [show (⟨#[]⟩ : ByteArray).data.toList = [] from rfl, sha_empty] at this
  exact this
theorem z2 (w : World) : Calls Tryd.prog 36 #[.string ⟨#[227, 176, 196, 66, 152, 252, 28, 20, 154, 251, 244, 200, 153, 111, 185, 36, 39, 174, 65, 228, 100, 155, 147, 76, 164, 149, 153, 27, 120, 82, 184, 85]⟩] w fun e W' => e = .returned (.string ⟨#[101, 51, 98, 48, 99, 52, 52, 50, 57, 56, 102, 99, 49, 99, 49, 52, 57, 97, 102, 98, 102, 52, 99, 56, 57, 57, 54, 102, 98, 57, 50, 52, 50, 55, 97, 101, 52, 49, 101, 52, 54, 52, 57, 98, 57, 51, 52, 99, 97, 52, 57, 53, 57, 57, 49, 98, 55, 56, 53, 50, 98, 56, 53, 53]⟩) ∧ Below w.heap.size w W' :=
  hex_calls ⟨#[227, 176, 196, 66, 152, 252, 28, 20, 154, 251, 244, 200, 153, 111, 185, 36, 39, 174, 65, 228, 100, 155, 147, 76, 164, 149, 153, 27, 120, 82, 184, 85]⟩ w (by decide)
theorem z3 (w : World) (hK : Konst w) : Calls Tryd.prog 12 #[.string ⟨#[97, 98, 99]⟩] w fun e W' => e = .returned (.string ⟨#[186, 120, 22, 191, 143, 1, 207, 234, 65, 65, 64, 222, 93, 174, 34, 35, 176, 3, 97, 163, 150, 23, 122, 156, 180, 16, 255, 97, 242, 0, 21, 173]⟩) ∧ Below w.heap.size w W' := by
  have := Sum_calls ⟨#[97, 98, 99]⟩ w hK (by decide)
  rw [show (⟨#[97, 98, 99]⟩ : ByteArray).data.toList = [97, 98, 99] from rfl, sha_abc] at this
  exact this
theorem z4 (w : World) : Calls Tryd.prog 36 #[.string ⟨#[186, 120, 22, 191, 143, 1, 207, 234, 65, 65, 64, 222, 93, 174, 34, 35, 176, 3, 97, 163, 150, 23, 122, 156, 180, 16, 255, 97, 242, 0, 21, 173]⟩] w fun e W' => e = .returned (.string ⟨#[98, 97, 55, 56, 49, 54, 98, 102, 56, 102, 48, 49, 99, 102, 101, 97, 52, 49, 52, 49, 52, 48, 100, 101, 53, 100, 97, 101, 50, 50, 50, 51, 98, 48, 48, 51, 54, 49, 97, 51, 57, 54, 49, 55, 55, 97, 57, 99, 98, 52, 49, 48, 102, 102, 54, 49, 102, 50, 48, 48, 49, 53, 97, 100]⟩) ∧ Below w.heap.size w W' :=
  hex_calls ⟨#[186, 120, 22, 191, 143, 1, 207, 234, 65, 65, 64, 222, 93, 174, 34, 35, 176, 3, 97, 163, 150, 23, 122, 156, 180, 16, 255, 97, 242, 0, 21, 173]⟩ w (by decide)
theorem abc_short : ∀ x ∈ abc3, x.length ≤ 1000000000 := by decide
theorem z5 (B : Nat) (w : World) (hK : Konst w) (hs : StrsAt w B 0 abc3) : Calls Tryd.prog 21 #[.slice (some ⟨B, 0, none⟩) 3 3, .int .i64 2] w fun e W' =>
    (∃ A cap, e = .returned (.tuple #[.slice A 1 cap, .int .i64 0]) ∧ 1 ≤ cap ∧ Strs W' A [nodeF shaF (leafF shaF [97]) (leafF shaF [98])]) ∧ Below w.heap.size w W' := by
  refine (Proof_in abc3 (some ⟨B, 0, none⟩) 3 2 w hK (by decide) (by decide) hs.strs abc_short (by decide)).mono ?_
  rintro e W' ⟨⟨v, rfl, hv⟩, b⟩
  rw [tri_proof] at hv
  obtain ⟨A, cap, rfl, h1, h2⟩ := hv.slice
  exact ⟨⟨A, cap, rfl, h1, h2⟩, b⟩
theorem z6 (B : Nat) (w : World) (hK : Konst w) (hs : StrsAt w B 0 abc3) : Calls Tryd.prog 23 #[.slice (some ⟨B, 0, none⟩) 3 3, .int .i64 1] w fun e W' =>
    (∃ A cap, e = .returned (.tuple #[.slice A 2 cap, .int .i64 0]) ∧ 2 ≤ cap ∧ Strs W' A [leafF shaF [98], leafF shaF [99]]) ∧ Below w.heap.size w W' := by
  refine (Extension_in abc3 (some ⟨B, 0, none⟩) 3 1 w hK (by decide) (by decide) hs.strs abc_short (by decide)).mono ?_
  rintro e W' ⟨⟨v, rfl, hv⟩, b⟩
  rw [tri_ext] at hv
  obtain ⟨A, cap, rfl, h1, h2⟩ := hv.slice
  exact ⟨⟨A, cap, rfl, h1, h2⟩, b⟩
theorem z7 (B : Nat) (w : World) : Calls Tryd.prog 21 #[.slice (some ⟨B, 0, none⟩) 3 3, .int .i64 3] w fun e W' => e = .returned (.tuple #[.slice none 0 0, .int .i64 2]) ∧ Below w.heap.size w W' :=
  Proof_out 3 _ 3 3 w (by decide)
theorem z8 (B k : Nat) (w : World) (hK : Konst w) (hs : StrsAt w B 0 abc3) (hk : k ≤ 3) : Calls Tryd.prog 26 #[.slice (some ⟨B, 0, none⟩) k 3] w fun e W' => e = .returned (.string ⟨(rootF shaF (abc3.take k)).toArray⟩) ∧ Below w.heap.size w W' := by
  have hl : (abc3.take k).length = k := by rw [List.length_take]; show min k 3 = k; omega
  have := Root_calls (abc3.take k) (some ⟨B, 0, none⟩) 3 w hK (by omega) (by omega) (hs.take k).strs (fun x hm => abc_short x (List.mem_of_mem_take hm))
  rw [hl] at this
  exact this
theorem z9 (A : Option Addr) (cap : Nat) (w : World) (hK : Konst w) (h1 : 1 ≤ cap) (hs : Strs w A [nodeF shaF (leafF shaF [97]) (leafF shaF [98])]) :
    Calls Tryd.prog 29 #[.string ⟨(rootF shaF abc3).toArray⟩, .int .i64 3, .int .i64 2, .string ⟨#[99]⟩, .slice A 1 cap] w fun e W' => e = .returned (.bool true) ∧ Below w.heap.size w W' := by
  have h : verB (rootF shaF abc3) 3 2 [99] [nodeF shaF (leafF shaF [97]) (leafF shaF [98])] = true := by
    unfold verB
    rw [decide_eq_true_iff]
    refine ⟨by decide, by decide, fun x hx => ?_, rfl, ?_⟩
    · rw [List.mem_singleton.1 hx]; exact sha32 _
    · exact (congrArg Prod.fst (tri_val shaF [99] _)).trans (tri_root shaF).symm
  have := Verify_calls ⟨(rootF shaF abc3).toArray⟩ 3 2 ⟨#[99]⟩ [nodeF shaF (leafF shaF [97]) (leafF shaF [98])] A cap w hK (by decide) (by simp) h1 hs (by intro x hx; rw [List.mem_singleton.1 hx, show (nodeF shaF (leafF shaF [97]) (leafF shaF [98])).length = 32 from sha32 _]; decide) (by decide)
  rw [show verB (⟨(rootF shaF abc3).toArray⟩ : ByteArray).data.toList 3 2 (⟨#[99]⟩ : ByteArray).data.toList [nodeF shaF (leafF shaF [97]) (leafF shaF [98])] = true from h] at this
  exact this
theorem z10 (A : Option Addr) (cap : Nat) (w : World) (hK : Konst w) (h1 : 1 ≤ cap) (hs : Strs w A [nodeF shaF (leafF shaF [97]) (leafF shaF [98])]) :
    Calls Tryd.prog 29 #[.string ⟨(rootF shaF abc3).toArray⟩, .int .i64 3, .int .i64 2, .string ⟨#[100]⟩, .slice A 1 cap] w fun e W' => e = .returned (.bool false) ∧ Below w.heap.size w W' := by
  have h : verB (rootF shaF abc3) 3 2 [100] [nodeF shaF (leafF shaF [97]) (leafF shaF [98])] = false := by
    unfold verB
    rw [decide_eq_false_iff_not]
    rintro ⟨_, _, _, _, h⟩
    exact sane_bad (((congrArg Prod.fst (tri_val shaF [100] _)).symm.trans h).trans (tri_root shaF))
  have := Verify_calls ⟨(rootF shaF abc3).toArray⟩ 3 2 ⟨#[100]⟩ [nodeF shaF (leafF shaF [97]) (leafF shaF [98])] A cap w hK (by decide) (by simp) h1 hs (by intro x hx; rw [List.mem_singleton.1 hx, show (nodeF shaF (leafF shaF [97]) (leafF shaF [98])).length = 32 from sha32 _]; decide) (by decide)
  rw [show verB (⟨(rootF shaF abc3).toArray⟩ : ByteArray).data.toList 3 2 (⟨#[100]⟩ : ByteArray).data.toList [nodeF shaF (leafF shaF [97]) (leafF shaF [98])] = false from h] at this
  exact this
theorem pair32 : ∀ x ∈ [leafF shaF [98], leafF shaF [99]], x.length = 32 := by
  intro x hx
  have hx2 : x = leafF shaF [98] ∨ x = leafF shaF [99] := by simpa using hx
  rcases hx2 with rfl | rfl
  · exact sha32 _
  · exact sha32 _
theorem root_sz (l : List Bs) : (⟨(rootF shaF l).toArray⟩ : ByteArray).size ≤ 9223372036854775807 := by rw [mk_size, root_length]; decide
theorem z11 (A : Option Addr) (cap : Nat) (w : World) (hK : Konst w) (h1 : 2 ≤ cap) (hs : Strs w A [leafF shaF [98], leafF shaF [99]]) :
    Calls Tryd.prog 30 #[.string ⟨(rootF shaF (abc3.take 1)).toArray⟩, .int .i64 1, .string ⟨(rootF shaF abc3).toArray⟩, .int .i64 3, .slice A 2 cap] w fun e W' => e = .returned (.bool true) ∧ Below w.heap.size w W' := by
  have h : verEB (rootF shaF (abc3.take 1)) 1 (rootF shaF abc3) 3 [leafF shaF [98], leafF shaF [99]] = true := by
    unfold verEB
    rw [decide_eq_true_iff, if_neg (by decide)]
    have hb : bothR shaF (rootF shaF (abc3.take 1)) [leafF shaF [98], leafF shaF [99]].reverse (Int.toNat 1) (Int.toNat 3) true = (rootF shaF (abc3.take 1), rootF shaF abc3, true) := both_ext shaF abc3 1 (by decide) (by decide)
    rw [hb]
    exact ⟨by decide, by decide, root_length _, root_length _, pair32, rfl, rfl, rfl⟩
  have := VerifyExtension_calls ⟨(rootF shaF (abc3.take 1)).toArray⟩ 1 ⟨(rootF shaF abc3).toArray⟩ 3 [leafF shaF [98], leafF shaF [99]] A cap w hK (by decide) (by simp) h1 hs (fun x hx => by rw [pair32 x hx]; decide) (root_sz _) (root_sz _)
  rw [show verEB (⟨(rootF shaF (abc3.take 1)).toArray⟩ : ByteArray).data.toList 1 (⟨(rootF shaF abc3).toArray⟩ : ByteArray).data.toList 3 [leafF shaF [98], leafF shaF [99]] = true from h] at this
  exact this
theorem z12 (A : Option Addr) (cap : Nat) (w : World) (hK : Konst w) (h1 : 2 ≤ cap) (hs : Strs w A [leafF shaF [98], leafF shaF [99]]) :
    Calls Tryd.prog 30 #[.string ⟨(rootF shaF (abc3.take 2)).toArray⟩, .int .i64 1, .string ⟨(rootF shaF abc3).toArray⟩, .int .i64 3, .slice A 2 cap] w fun e W' => e = .returned (.bool false) ∧ Below w.heap.size w W' := by
  have h : verEB (rootF shaF (abc3.take 2)) 1 (rootF shaF abc3) 3 [leafF shaF [98], leafF shaF [99]] = false := by
    unfold verEB
    rw [decide_eq_false_iff_not, if_neg (by decide)]
    rintro ⟨_, _, _, _, _, _, _, h⟩
    have hb : (bothR shaF (rootF shaF (abc3.take 2)) [leafF shaF [98], leafF shaF [99]].reverse (Int.toNat 1) (Int.toNat 3) true).2.1 = nodeF shaF (nodeF shaF (rootF shaF (abc3.take 2)) (leafF shaF [98])) (leafF shaF [99]) := congrArg (fun x => x.2.1) (tri_both shaF (rootF shaF (abc3.take 2)) (leafF shaF [98]) (leafF shaF [99]))
    exact sane_ext ((hb.symm.trans h).trans (tri_root shaF))
  have := VerifyExtension_calls ⟨(rootF shaF (abc3.take 2)).toArray⟩ 1 ⟨(rootF shaF abc3).toArray⟩ 3 [leafF shaF [98], leafF shaF [99]] A cap w hK (by decide) (by simp) h1 hs (fun x hx => by rw [pair32 x hx]; decide) (root_sz _) (root_sz _)
  rw [show verEB (⟨(rootF shaF (abc3.take 2)).toArray⟩ : ByteArray).data.toList 1 (⟨(rootF shaF abc3).toArray⟩ : ByteArray).data.toList 3 [leafF shaF [98], leafF shaF [99]] = false from h] at this
  exact this

set_option maxRecDepth 100000 in
set_option maxHeartbeats 2000000 in
theorem sane_calls (w : World) (hK : Konst w) : Calls Tryd.prog 11 #[] w fun e W' => e = .returned (.bool true) ∧ Below w.heap.size w W' := by
  have hA := Lib.hid (abc_at w)
  have h0 : Hld w (w.alloc (.cells #[.string ⟨#[97]⟩, .string ⟨#[98]⟩, .string ⟨#[99]⟩] 9)) := (Hld.refl w).alloc _
  have HK := Lib.hid (h0.konst hK)
  clear hK
  go_enter Tryd.func11, Tryd.ntmps11
  go_wp2_with fail
  generalize hw0 : w.alloc (.cells #[.string ⟨#[97]⟩, .string ⟨#[98]⟩, .string ⟨#[99]⟩] 9) = w0 at *
  clear hw0
  have a0 := Hld.refl w0
  refine (z5 w.heap.size _ HK.out hA.out).mono ?_
  rintro e w1 ⟨⟨A1, c1, rfl, hc1, hs1⟩, b1⟩
  have a1 := a0.step b1
  go_wp2_with fail
  refine (z6 w.heap.size _ (a1.konst HK.out) (a1.strsAt hA.out)).mono ?_
  rintro e w2 ⟨⟨A2, c2, rfl, hc2, hs2⟩, b2⟩
  have a2 := a1.step b2
  have hs1 := Lib.hid (hs1.keep b2)
  have hs2 := Lib.hid hs2
  go_wp2_with fail
  refine (z7 w.heap.size _).mono ?_
  rintro e w3 ⟨rfl, b3⟩
  have a3 := a2.step b3
  have d3 := (Hld.refl w2).step b3
  go_wp2_with fail
  refine (z8 w.heap.size 3 _ (a3.konst HK.out) (a3.strsAt hA.out) (by decide)).mono ?_
  rintro e w4 ⟨rfl, b4⟩
  have a4 := a3.step b4
  have d4 := d3.step b4
  rw [show abc3.take 3 = abc3 from rfl]
  go_wp2_with fail
  refine (z1 _ (a4.konst HK.out)).mono ?_
  rintro e w5 ⟨rfl, b5⟩
  have a5 := a4.step b5
  have d5 := d4.step b5
  go_wp2_with fail
  refine (z2 _).mono ?_
  rintro e w6 ⟨rfl, b6⟩
  have a6 := a5.step b6
  have d6 := d5.step b6
  go_wp2_with fail
  refine (z3 _ (a6.konst HK.out)).mono ?_
  rintro e w7 ⟨rfl, b7⟩
  have a7 := a6.step b7
  have d7 := d6.step b7
  go_wp2_with fail
  refine (z4 _).mono ?_
  rintro e w8 ⟨rfl, b8⟩
  have a8 := a7.step b8
  have d8 := d7.step b8
  go_wp2_with fail
  refine (z9 A1 c1 _ (a8.konst HK.out) hc1 (d8.strs hs1.out)).mono ?_
  rintro e w9 ⟨rfl, b9⟩
  have a9 := a8.step b9
  have d9 := d8.step b9
  go_wp2_with fail
  refine (z10 A1 c1 _ (a9.konst HK.out) hc1 (d9.strs hs1.out)).mono ?_
  rintro e w10 ⟨rfl, b10⟩
  have a10 := a9.step b10
  have d10 := d9.step b10
  go_wp2_with fail
  refine (z8 w.heap.size 1 _ (a10.konst HK.out) (a10.strsAt hA.out) (by decide)).mono ?_
  rintro e w11 ⟨rfl, b11⟩
  have a11 := a10.step b11
  have d11 := d10.step b11
  go_wp2_with fail
  refine (z11 A2 c2 _ (a11.konst HK.out) hc2 (d11.strs hs2.out)).mono ?_
  rintro e w12 ⟨rfl, b12⟩
  have a12 := a11.step b12
  have d12 := d11.step b12
  go_wp2_with fail
  refine (z8 w.heap.size 2 _ (a12.konst HK.out) (a12.strsAt hA.out) (by decide)).mono ?_
  rintro e w13 ⟨rfl, b13⟩
  have a13 := a12.step b13
  have d13 := d12.step b13
  go_wp2_with fail
  refine (z12 A2 c2 _ (a13.konst HK.out) hc2 (d13.strs hs2.out)).mono ?_
  rintro e w14 ⟨rfl, b14⟩
  have a14 := a13.step b14
  go_wp2_with fail
  go_ret
  exact ⟨rfl, (Hid.out h0).trans ((Hid.out a14).mono h0.size)⟩
end Go.Proofs.YtinioifhbafngaaDoor
