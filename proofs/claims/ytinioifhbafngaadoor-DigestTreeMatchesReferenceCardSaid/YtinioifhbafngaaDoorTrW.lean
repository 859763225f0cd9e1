/- The walk of DigestTreeMatchesReference: for every list, index and number it returns true, and nothing that was there has changed. Condition: the table of constants reads as the program lays it. -/
import Derived.Test.YtinioifhbafngaaDoorAny
namespace Go.Proofs.YtinioifhbafngaaDoor
open Go.RowKit

set_option maxRecDepth 100000 in
set_option maxHeartbeats 2000000 in
theorem tree_walk (A : Option Addr) (l : List Bs) (cap : Nat) (i m : Int) (w : World) (hK : Konst w) (_hc : l.length ≤ cap) (hl : l.length ≤ 9223372036854775807) (hs : Strs w A l) (hx : ∀ x ∈ l, x.length ≤ 9223372036854775807)
    (_i1 : -9223372036854775808 ≤ i) (_i2 : i ≤ 9223372036854775807) (_m1 : -9223372036854775808 ≤ m) (_m2 : m ≤ 9223372036854775807) :
    Calls Tryd.prog 4 #[.slice A l.length cap, .int .i64 i, .int .i64 m] w fun e W' => e = .returned (.bool true) ∧ Below w.heap.size w W' := by
  have k0 : HK w := Lib.hid hK
  have s0 : HS w A l := Lib.hid hs
  have Hx := Lib.hid hx
  clear hK hs hx
  go_enter Tryd.func4, Tryd.ntmps4
  go_wp2_with fail
  refine (sane_calls _ (Hid.out k0)).mono ?_
  rintro e w1 ⟨rfl, b1⟩
  have a1 := (Hld.refl w).step b1
  have k1 := k0.keep b1
  have s1 := s0.keep b1
  go_wp2_with fail
  refine (few_calls l A cap 40 _ (by omega) (Hid.out s1) Hx.out hl).mono ?_
  rintro e w2 ⟨⟨v, rfl, hv⟩, b2⟩
  have a2 := a1.step b2
  have k2 := k1.keep b2
  have h40 := fewL_length l 40
  have H60 := Lib.hid (fewL_60 l 40)
  generalize fewL l 40 = L at *
  obtain ⟨A2, c2, rfl, hc2, hs2⟩ := hv.slice
  have t2 : HS w2 A2 L := Lib.hid hs2
  clear hv hs2 s0 s1
  go_wp2_with fail
  refine (Proof_any L A2 c2 i _ (Hid.out k2) (by omega) hc2 (Hid.out t2) H60.out).mono ?_
  rintro e w3 ⟨⟨A3, c3, rfl, hc3, p3, _⟩, b3⟩
  have a3 := a2.step b3
  have k3 := k2.keep b3
  have t3 := t2.keep b3
  go_wp2_with fail
  refine (refProof_any L A2 c2 i _ (by omega) hc2 (Hid.out t3) H60.out).mono ?_
  rintro e w4 ⟨⟨A4, c4, rfl, hc4, q4, _⟩, b4⟩
  have a4 := a3.step b4
  have k4 := k3.keep b4
  have t4 := t3.keep b4
  have p4 := p3.keep b4
  go_wp2_with fail
  refine (Extension_any L A2 c2 m _ (Hid.out k4) (by omega) hc2 (Hid.out t4) H60.out).mono ?_
  rintro e w5 ⟨⟨A5, c5, rfl, hc5, x5, _⟩, b5⟩
  have a5 := a4.step b5
  have k5 := k4.keep b5
  have t5 := t4.keep b5
  have p5 := p4.keep b5
  have q5 := q4.keep b5
  go_wp2_with fail
  refine (refExtension_any L A2 c2 m _ (by omega) hc2 (Hid.out t5) H60.out).mono ?_
  rintro e w6 ⟨⟨A6, c6, rfl, hc6, y6, _⟩, b6⟩
  have a6 := a5.step b6
  have k6 := k5.keep b6
  have t6 := t5.keep b6
  have p6 := p5.keep b6
  have q6 := q5.keep b6
  have x6 := x5.keep b6
  have hpl := prF_length L i (by omega)
  have hel := exF_length L m (by omega)
  generalize prF L i = P at *
  generalize exF L m = X at *
  generalize prE L i = pe at *
  generalize exE L m = xe at *
  go_wp2_with fail
  refine (same_eq P A3 A4 c3 c4 _ (Hid.out p6) (Hid.out q6) (by omega)).mono ?_
  rintro e w7 ⟨rfl, b7⟩
  have a7 := a6.step b7
  have k7 := k6.keep b7
  have t7 := t6.keep b7
  have x7 := x6.keep b7
  have y7 := y6.keep b7
  go_wp2_with fail
  refine (same_eq X A5 A6 c5 c6 _ (Hid.out x7) (Hid.out y7) (by omega)).mono ?_
  rintro e w8 ⟨rfl, b8⟩
  have a8 := a7.step b8
  have k8 := k7.keep b8
  have t8 := t7.keep b8
  go_wp2_with fail
  refine (Root_calls L A2 c2 _ (Hid.out k8) (by omega) hc2 (Hid.out t8) (fun x hm => by have := H60.out x hm; omega)).mono ?_
  rintro e w9 ⟨rfl, b9⟩
  have a9 := a8.step b9
  have t9 := t8.keep b9
  go_wp2_with fail
  refine (refRoot_calls L A2 c2 _ (by omega) hc2 (Hid.out t9) (fun x hm => by have := H60.out x hm; omega)).mono ?_
  rintro e w10 ⟨rfl, b10⟩
  have a10 := a9.step b10
  go_wp2_with fail
  go_ret
  exact ⟨rfl, Hid.out a10⟩
end Go.Proofs.YtinioifhbafngaaDoor
