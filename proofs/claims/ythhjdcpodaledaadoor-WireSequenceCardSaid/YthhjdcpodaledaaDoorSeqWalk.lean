/- The walk of WireSequence: for every slice of integers and every slice of strings it returns true, and nothing that was there has changed. Conditions: the table reads as the program lays it. -/
import Derived.Deep.RegionHeld3
import Derived.StillTailTactics
import Derived.Test.YthhjdcpodaledaaDoorUniqWalk
namespace Go.Proofs.YthhjdcpodaledaaDoor
open Go.RowKit

/-- What the law concatenates: k encodings of integers and strings in turn. -/
def cat (ns : Nat → Int) (ts : Nat → List UInt8) : Nat → List UInt8
  | 0 => []
  | k + 1 => cat ns ts k ++ putI (ns k) ++ putS (ts k)

theorem cat_length (ns : Nat → Int) (ts : Nat → List UInt8) (h : ∀ i, (ts i).length ≤ 100) (k : Nat) : (cat ns ts k).length ≤ 118 * k := by
  induction k with
  | zero => simp [cat]
  | succ k ih =>
    have h1 := putI_length (ns k)
    have h2 := putS_length (ts k)
    have h3 := h k
    rw [cat, List.length_append, List.length_append]
    omega

theorem cat_split (ns : Nat → Int) (ts : Nat → List UInt8) (k n : Nat) (h : k < n) : ∃ rest, cat ns ts n = cat ns ts k ++ putI (ns k) ++ putS (ts k) ++ rest := by
  induction n with
  | zero => omega
  | succ n ih =>
    by_cases e : k = n
    · subst e; exact ⟨[], by simp [cat]⟩
    · obtain ⟨rest, hr⟩ := ih (by omega)
      exact ⟨rest ++ putI (ns n) ++ putS (ts n), by rw [cat, hr]; simp⟩

theorem getI_end (l : List UInt8) : getI l l.length = none := by
  unfold getI
  rw [List.drop_length]
  rfl

def cut100 (s : ByteArray) : ByteArray := s.extract 0 (min (s.size : Int) 100).toNat
theorem cut100_size (s : ByteArray) : (cut100 s).size ≤ 100 := Nat.le_trans (cut_size _ _) (by omega)

theorem cat_bytes (ns : Nat → Int) (ts : Nat → List UInt8) (k : Nat) :
    (⟨(cat ns ts k).toArray⟩ : ByteArray) ++ ⟨(putI (ns k)).toArray⟩ ++ ⟨(putS (ts k)).toArray⟩ = ⟨(cat ns ts (k + 1)).toArray⟩ := by
  rw [bytes_append, bytes_append]
  simp [cat]

theorem seq_int (ns : Nat → Int) (ts : Nat → List UInt8) (k n : Nat) (w : World) (h : k < n) (hn : Fits (ns k)) (hl : (cat ns ts n).length ≤ 10000) :
    Calls Tryd.prog 15 #[.string ⟨(cat ns ts n).toArray⟩, .int .i64 ((cat ns ts k).length : Int)] w fun e w' => e = .returned (.tuple #[.int .i64 (ns k), .int .i64 (((cat ns ts k).length + (putI (ns k)).length : Nat) : Int), .int .i64 0]) ∧ w = w' := by
  obtain ⟨rest, hr⟩ := cat_split ns ts k n h
  have hg := getI_putI (ns k) (cat ns ts k) (putS (ts k) ++ rest) hn
  rw [← List.append_assoc, ← hr] at hg
  have hle := (getI_sound _ _ _ _ hg).2.2.1
  exact int_some _ _ w (by rw [mk_size]; omega) (by rw [mk_size]; omega) _ _ hg

theorem seq_str (ns : Nat → Int) (ts : Nat → List UInt8) (k n : Nat) (w : World) (h : k < n) (ht : (ts k).length ≤ 65536) (hl : (cat ns ts n).length ≤ 10000) :
    Calls Tryd.prog 17 #[.string ⟨(cat ns ts n).toArray⟩, .int .i64 (((cat ns ts k).length + (putI (ns k)).length : Nat) : Int)] w fun e w' => e = .returned (.tuple #[.string ⟨(ts k).toArray⟩, .int .i64 ((cat ns ts (k + 1)).length : Int), .int .i64 0]) ∧ Below w.heap.size w w' := by
  obtain ⟨rest, hr⟩ := cat_split ns ts k n h
  have hg := getS_putS (ts k) (cat ns ts k ++ putI (ns k)) rest ht
  rw [← hr, List.length_append] at hg
  have hle := (getS_sound _ _ _ _ hg).2.2.1
  have e1 : (cat ns ts (k + 1)).length = (cat ns ts k).length + (putI (ns k)).length + (putS (ts k)).length := by
    rw [cat, List.length_append, List.length_append]
  rw [e1]
  exact string_some _ _ w (by rw [mk_size]; omega) (by rw [mk_size]; omega) _ _ hg

theorem seq_end (l : List UInt8) (w : World) (h : l.length ≤ 10000) :
    Calls Tryd.prog 15 #[.string ⟨l.toArray⟩, .int .i64 (l.length : Int)] w fun e w' => e = .returned (.tuple #[.int .i64 0, .int .i64 0, .int .i64 10]) ∧ w = w' :=
  int_none ⟨l.toArray⟩ l.length w (by rw [mk_size]; omega) (by rw [mk_size]; exact Nat.le_refl _) (getI_end l)

set_option maxRecDepth 100000 in
set_option maxHeartbeats 2000000 in
theorem seq_zero (al : Option Addr) (ln cn : Nat) (at' : Option Addr) (lt ct : Nat) (w : World) (hT : Table w) (h0 : (ln = 0 ∧ lt ≤ 9223372036854775807) ∨ (lt = 0 ∧ 0 < ln ∧ ln ≤ 9223372036854775807)) :
    Calls Tryd.prog 6 #[.slice al ln cn, .slice at' lt ct] w fun e w' => e = .returned (.bool true) ∧ Below w.heap.size w w' := by
  rcases h0 with ⟨rfl, h1⟩ | ⟨rfl, h1, h2⟩
  all_goals
    go_enter Tryd.func6, Tryd.ntmps6
    go_wp2_with fail
    refine (sane_calls _ hT).mono ?_
    rintro e w1 ⟨rfl, bA⟩
    go_wp2_with fail
    go_loopw [7, 8] (fun sv iv wr => sv = .string ⟨#[]⟩ ∧ iv = .int .i64 0 ∧ Below w.heap.size w wr) (fun _ _ _ => 0)
    case atStart => exact ⟨rfl, rfl, bA⟩
    case round =>
      obtain ⟨rfl, rfl, bR⟩ := hrel
      obtain ⟨wo, rfl⟩ : ∃ wo : World, wo = wr := ⟨_, rfl⟩
      clear bA
      go_wp2_with fail
      go_loopw [13, 14] (fun av iv wr => av = .int .i64 0 ∧ iv = .int .i64 0 ∧ Below w.heap.size w wr) (fun _ _ _ => 0)
      case atStart => exact ⟨rfl, rfl, bR⟩
      case round =>
        obtain ⟨rfl, rfl, bS⟩ := hrel
        clear bR
        go_wp2_with fail
        refine (seq_end [] _ (by decide)).mono ?_
        rintro e w' ⟨rfl, rfl⟩
        go_wp2_with fail
        go_ret
        exact ⟨rfl, bS⟩

set_option maxRecDepth 100000 in
set_option maxHeartbeats 8000000 in
theorem seq_main (b1 o1 ln cn b2 o2 lt ct : Nat) (zs : Nat → Int) (ss : Nat → ByteArray) (w : World) (hT : Table w)
    (hz : ∀ i, i < ln → w.cell? ⟨b1, o1 + i, none⟩ = some (.int .i64 (zs i)) ∧ -9223372036854775808 ≤ zs i ∧ zs i ≤ 9223372036854775807)
    (hs : ∀ i, i < lt → w.cell? ⟨b2, o2 + i, none⟩ = some (.string (ss i)) ∧ (ss i).size ≤ 9223372036854775807)
    (hln : ln ≤ 9223372036854775807) (hlt : lt ≤ 9223372036854775807) :
    Calls Tryd.prog 6 #[.slice (some ⟨b1, o1, none⟩) ln cn, .slice (some ⟨b2, o2, none⟩) lt ct] w fun e w' => e = .returned (.bool true) ∧ Below w.heap.size w w' := by
  have Hz := Lib.hid hz
  have Hs := Lib.hid hs
  clear hz hs
  go_enter Tryd.func6, Tryd.ntmps6
  go_wp2_with fail
  refine (sane_calls _ hT).mono ?_
  rintro e w1 ⟨rfl, bA⟩
  rcases (show (lt < ln ∧ lt ≤ 20) ∨ (lt < ln ∧ 20 < lt) ∨ (ln ≤ lt ∧ ln ≤ 20) ∨ (ln ≤ lt ∧ 20 < ln) by omega) with ⟨c1, c2⟩ | ⟨c1, c2⟩ | ⟨c1, c2⟩ | ⟨c1, c2⟩
  case' inl =>
    have c3 : (lt : Int) ≤ 20 := by omega
    go_wp2_with fail
    generalize hV : (lt : Int) = V
    have q1 : V ≤ (ln : Int) := by omega
    have q2 : V ≤ (lt : Int) := by omega
    have q3 : V ≤ ((20 : Nat) : Int) := by omega
    have q4 : 0 ≤ V := by omega
    clear hV c1 c2 c3
  case' inr.inl =>
    have c3 : (20 : Int) < (lt : Int) := by omega
    go_wp2_with fail
    generalize hV : (20 : Int) = V
    have q1 : V ≤ (ln : Int) := by omega
    have q2 : V ≤ (lt : Int) := by omega
    have q3 : V ≤ ((20 : Nat) : Int) := by omega
    have q4 : 0 ≤ V := by omega
    clear hV c1 c2 c3
  case' inr.inr.inl =>
    have c3 : (ln : Int) ≤ 20 := by omega
    go_wp2_with fail
    generalize hV : (ln : Int) = V
    have q1 : V ≤ (ln : Int) := by omega
    have q2 : V ≤ (lt : Int) := by omega
    have q3 : V ≤ ((20 : Nat) : Int) := by omega
    have q4 : 0 ≤ V := by omega
    clear hV c1 c2 c3
  case' inr.inr.inr =>
    have c3 : (20 : Int) < (ln : Int) := by omega
    go_wp2_with fail
    generalize hV : (20 : Int) = V
    have q1 : V ≤ (ln : Int) := by omega
    have q2 : V ≤ (lt : Int) := by omega
    have q3 : V ≤ ((20 : Nat) : Int) := by omega
    have q4 : 0 ≤ V := by omega
    clear hV c1 c2 c3
  all_goals
    obtain ⟨N, rfl⟩ := Int.eq_ofNat_of_zero_le q4
    have HL := Lib.hid (cat_length (fun i => numF (zs i)) (fun i => (cut100 (ss i)).data.toList) (fun i => by simpa using cut100_size (ss i)))
    go_loopw [7, 8] (fun sv iv wr => ∃ k : Nat, k ≤ N ∧ iv = .int .i64 k ∧ sv = .string ⟨(cat (fun i => numF (zs i)) (fun i => (cut100 (ss i)).data.toList) k).toArray⟩ ∧ Below w.heap.size w wr) (fun _ iv _ => N - (intOf iv).toNat)
    case atStart => exact ⟨0, by omega, rfl, rfl, bA⟩
    case round =>
      obtain ⟨k, hkN, rfl, rfl, bR⟩ := hrel
      clear bA
      by_cases hk : k < N
      · have hk1 : k < ln := by omega
        have hk2 : k < lt := by omega
        obtain ⟨z1, z2, z3⟩ := Hz.out k hk1
        obtain ⟨t1, t2⟩ := Hs.out k hk2
        have zc : wr.cell? ⟨b1, o1 + k, none⟩ = some (.int .i64 (zs k)) := (bR.cell (p := ⟨b1, o1 + k, none⟩) (lt_of_cell z1)).trans z1
        have tc : wr.cell? ⟨b2, o2 + k, none⟩ = some (.string (ss k)) := (bR.cell (p := ⟨b2, o2 + k, none⟩) (lt_of_cell t1)).trans t1
        have tlt := Lib.hid (lt_of_cell tc)
        clear z1 t1
        obtain ⟨n1, n2⟩ := numF_range (zs k)
        go_wp2_with fail
        clear zc
        refine (number_calls (zs k) _ z2 z3).mono ?_
        rintro e w2 ⟨rfl, b2'⟩
        go_wp2_with fail
        refine (putInt_yes (numF (zs k)) _ (by omega) (by omega)).mono ?_
        rintro e w3 ⟨rfl, b3⟩
        have tc3 : w3.cell? ⟨b2, o2 + k, none⟩ = some (.string (ss k)) := by
          rw [b3.cell (p := ⟨b2, o2 + k, none⟩) (Nat.lt_of_lt_of_le tlt.out b2'.size), b2'.cell (p := ⟨b2, o2 + k, none⟩) tlt.out, tc]
        clear tc
        have tlt3 := Lib.hid (lt_of_cell tc3)
        go_wp2_with fail
        have z5 := cut100_size (ss k)
        have e5 : (ss k).extract 0 (min ((ss k).size : Int) 100).toNat = cut100 (ss k) := rfl
        have hm1 : (0 : Int) ≤ min ((ss k).size : Int) 100 := by omega
        have hm2 : min ((ss k).size : Int) 100 ≤ ((ss k).size : Int) := by omega
        go_region_held3 (fun w' => w'.cell? ⟨b2, o2 + k, none⟩ = some (.string (ss k)) ∧ Below w3.heap.size w3 w') (first | exact ⟨tc3, (Below.refl _ _).drew⟩ | exact ⟨(b4.cell (p := ⟨b2, o2 + k, none⟩) tlt3.out).trans tc3, ((Below.refl _ _).drew).trans b4⟩)
          (first | (go_at_call 19; refine (putString_yes (cut100 (ss k)) _ (by omega)).mono ?_; rintro e w4 ⟨rfl, b4⟩))
        have hl1 := HL.out k
        have hl2 := (putI_length (numF (zs k))).2
        have hl3 := (putS_length (cut100 (ss k)).data.toList).2
        have hl4 : (cut100 (ss k)).data.toList.length ≤ 100 := by simpa using z5
        clear e5 hm1 hm2
        go_wp2_with fail
        go_roundw
        case rel =>
          have hc := cat_bytes (fun i => numF (zs i)) (fun i => (cut100 (ss i)).data.toList) k
          have hb := (b2'.trans (b3.mono b2'.size)).trans ((((Below.refl _ _).drew).trans b4).mono (Nat.le_trans b2'.size b3.size))
          exact ⟨k + 1, by omega, by go_num, by rw [← hc], bR.trans (hb.mono bR.size)⟩
        case measure => simp [intOf]; omega
      · obtain rfl : k = N := by omega
        have hkk : (k : Int) ≤ (k : Int) := by omega
        clear hk
        have hl0 := Lib.hid (show (cat (fun i => numF (zs i)) (fun i => (cut100 (ss i)).data.toList) k).length ≤ 10000 by have := HL.out k; omega)
        obtain ⟨wo, rfl⟩ : ∃ wo : World, wo = wr := ⟨_, rfl⟩
        go_wp2_with fail
        go_loopw [13, 14] (fun av iv wr => ∃ j : Nat, j ≤ k ∧ iv = .int .i64 j ∧ av = .int .i64 ((cat (fun i => numF (zs i)) (fun i => (cut100 (ss i)).data.toList) j).length : Int) ∧ Below w.heap.size w wr) (fun _ iv _ => k - (intOf iv).toNat)
        case atStart => exact ⟨0, by omega, rfl, rfl, bR⟩
        case round =>
          obtain ⟨j, hjk, rfl, rfl, bS⟩ := hrel
          clear bR
          by_cases hj : j < k
          · have hk1 : j < ln := by omega
            have hk2 : j < lt := by omega
            obtain ⟨z1, z2, z3⟩ := Hz.out j hk1
            obtain ⟨t1, t2⟩ := Hs.out j hk2
            have Z1 := Lib.hid z1
            have T1 := Lib.hid t1
            clear z1 t1
            obtain ⟨n1, n2⟩ := numF_range (zs j)
            go_wp2_with fail
            refine (seq_int (fun i => numF (zs i)) (fun i => (cut100 (ss i)).data.toList) j k _ hj ⟨by omega, by omega⟩ hl0.out).mono ?_
            rintro e w' ⟨rfl, rfl⟩
            go_wp2_with fail
            refine (seq_str (fun i => numF (zs i)) (fun i => (cut100 (ss i)).data.toList) j k _ hj (by have := cut100_size (ss j); simp; omega) hl0.out).mono ?_
            rw [mk_eta]
            rintro e w5 ⟨rfl, b5⟩
            have bT := bS.trans (b5.mono bS.size)
            have zc : w5.cell? ⟨b1, o1 + j, none⟩ = some (.int .i64 (zs j)) := (bT.cell (p := ⟨b1, o1 + j, none⟩) (lt_of_cell Z1.out)).trans Z1.out
            have tc : w5.cell? ⟨b2, o2 + j, none⟩ = some (.string (ss j)) := (bT.cell (p := ⟨b2, o2 + j, none⟩) (lt_of_cell T1.out)).trans T1.out
            have zlt := Lib.hid (lt_of_cell zc)
            have tlt := Lib.hid (lt_of_cell tc)
            have e5 : (ss j).extract 0 (min ((ss j).size : Int) 100).toNat = cut100 (ss j) := rfl
            have hm1 : (0 : Int) ≤ min ((ss j).size : Int) 100 := by omega
            have hm2 : min ((ss j).size : Int) 100 ≤ ((ss j).size : Int) := by omega
            have hj1 : (j : Int) < (ln : Int) := by omega
            have hj2 : (j : Int) < (lt : Int) := by omega
            have hj0 : (0 : Int) ≤ (j : Int) := by omega
            go_wp2_with fail
            go_region_held3 (fun w' => w'.cell? ⟨b1, o1 + j, none⟩ = some (.int .i64 (zs j)) ∧ w'.cell? ⟨b2, o2 + j, none⟩ = some (.string (ss j)) ∧ Below w5.heap.size w5 w')
              (first | exact ⟨zc, tc, (Below.refl _ _).drew⟩ | exact ⟨(b6.cell (p := ⟨b1, o1 + j, none⟩) zlt.out).trans zc, (b6.cell (p := ⟨b2, o2 + j, none⟩) tlt.out).trans tc, ((Below.refl _ _).drew).trans b6⟩)
              (first | (go_at_call 11; refine (number_calls (zs j) _ z2 z3).mono ?_; rintro e w6 ⟨rfl, b6⟩))
            clear e5 hm1 hm2 hj0 hj1 hj2 zc tc
            go_wp2_with fail
            go_roundw
            case rel =>
              have hb := b5.trans ((((Below.refl _ _).drew).trans b6).mono b5.size)
              exact ⟨j + 1, by omega, by go_num, rfl, bS.trans (hb.mono bS.size)⟩
            case measure => simp [intOf]; omega
          · obtain rfl : j = k := by omega
            have hjj : (j : Int) ≤ (j : Int) := by omega
            clear hj
            go_wp2_with fail
            refine (seq_end _ _ hl0.out).mono ?_
            rintro e w' ⟨rfl, rfl⟩
            go_wp2_with fail
            go_ret
            exact ⟨rfl, bS⟩

/-- A slice of integers, as a walk reads it. -/
def IntsView (w : World) (a : Option Addr) (len : Nat) : Prop :=
  len ≤ 9223372036854775807 ∧ (len = 0 ∨ ∃ (b o : Nat) (zs : Nat → Int), a = some ⟨b, o, none⟩ ∧
    ∀ i, i < len → w.cell? ⟨b, o + i, none⟩ = some (.int .i64 (zs i)) ∧ -9223372036854775808 ≤ zs i ∧ zs i ≤ 9223372036854775807)
/-- A slice of strings, as a walk reads it. -/
def StrsView (w : World) (a : Option Addr) (len : Nat) : Prop :=
  len ≤ 9223372036854775807 ∧ (len = 0 ∨ ∃ (b o : Nat) (ss : Nat → ByteArray), a = some ⟨b, o, none⟩ ∧
    ∀ i, i < len → w.cell? ⟨b, o + i, none⟩ = some (.string (ss i)) ∧ (ss i).size ≤ 9223372036854775807)

theorem seq_walk (al : Option Addr) (ln cn : Nat) (at' : Option Addr) (lt ct : Nat) (w : World) (hT : Table w) (v1 : IntsView w al ln) (v2 : StrsView w at' lt) :
    Calls Tryd.prog 6 #[.slice al ln cn, .slice at' lt ct] w fun e w' => e = .returned (.bool true) ∧ Below w.heap.size w w' := by
  obtain ⟨m1, v1⟩ := v1
  obtain ⟨m2, v2⟩ := v2
  rcases v1 with h | ⟨b1, o1, zs, rfl, hz⟩
  · exact seq_zero al ln cn at' lt ct w hT (Or.inl ⟨h, m2⟩)
  · rcases v2 with h | ⟨b2, o2, ss, rfl, hs⟩
    · by_cases h0 : ln = 0
      · exact seq_zero _ ln cn at' lt ct w hT (Or.inl ⟨h0, m2⟩)
      · exact seq_zero _ ln cn at' lt ct w hT (Or.inr ⟨h, by omega, m1⟩)
    · exact seq_main b1 o1 ln cn b2 o2 lt ct zs ss w hT hz hs m1 m2

end Go.Proofs.YthhjdcpodaledaaDoor
