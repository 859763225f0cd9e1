/- The contract of the reference implementation's Apportion: the parts by largest remainders, in memory of its own; or nothing where the document refuses. -/
import Derived.Test.YtediphiebamffaaAp
namespace Go.Proofs.Ytediphiebamffaa
open Go.RowKit

theorem wg_some (l : List Int) (s : Nat) (h : sumF 1000000000000000 l 0 = some s) : (∀ x ∈ l, 0 ≤ x) ∧ s = sumW l ∧ sumW l ≤ 1000000000000000 := by
  rw [sumF_eq _ _ _ (by omega)] at h
  by_cases h2 : (∀ x ∈ l, 0 ≤ x) ∧ 0 + sumW l ≤ 1000000000000000
  · rw [if_pos h2] at h
    have := Option.some.inj h
    exact ⟨h2.1, by omega, by omega⟩
  · rw [if_neg h2] at h; cases h
theorem wgV_ok (t : Int) (l : List Int) (h : apOk t l) : wgV l = .tuple #[.int .i64 ((sumW l : Nat) : Int), .bool true] := by
  unfold wgV
  rw [sumF_eq _ _ _ (by omega), if_pos ⟨h.2.1, by have := h.2.2.2; omega⟩, Nat.zero_add]
  show Value.tuple #[.int .i64 ((sumW l : Nat) : Int), .bool (decide (0 < sumW l))] = _
  rw [decide_eq_true (by have := h.2.2.1; omega)]
/-- Where it is refused: by the sum, or by the total. -/
theorem wgV_bad (t : Int) (l : List Int) (h : ¬ apOk t l) : (∃ s : Int, wgV l = .tuple #[.int .i64 s, .bool false]) ∨ ((∃ s : Int, wgV l = .tuple #[.int .i64 s, .bool true]) ∧ (t < 0 ∨ 1000000000000000 < t)) := by
  unfold wgV
  cases hs : sumF 1000000000000000 l 0 with
  | none => exact Or.inl ⟨0, rfl⟩
  | some s =>
    have h2 := wg_some l s hs
    by_cases h3 : 0 < s
    · refine Or.inr ⟨⟨s, by show Value.tuple #[.int .i64 (s : Int), .bool (decide (0 < s))] = _; rw [decide_eq_true h3]⟩, ?_⟩
      by_cases h4 : 0 ≤ t ∧ t ≤ 1000000000000000
      · exact absurd ⟨h4, h2.1, by omega, h2.2.2⟩ h
      · omega
    · exact Or.inl ⟨s, by show Value.tuple #[.int .i64 (s : Int), .bool (decide (0 < s))] = _; rw [decide_eq_false h3]⟩
def apNo : Value := .tuple #[.slice none 0 0, .bool false]

set_option maxRecDepth 100000 in
theorem refAp_bad (t : Int) (l : List Int) (A : Option Addr) (cap : Nat) (w : World) (hs : Ints w A l) (hl : l.length ≤ 1000000) (hx : In64 l) (h : ¬ apOk t l) :
    Calls Try.prog 21 #[.int .i64 t, .slice A l.length cap] w fun e w' => e = .returned apNo ∧ w = w' := by
  have HW := Lib.hid (weigh_calls l A cap w hs hl hx)
  rcases wgV_bad t l h with ⟨s, hv⟩ | ⟨⟨s, hv⟩, ht⟩
  · have HV := Lib.hid hv
    clear hv h hs hx
    go_enter Try.func21, Try.ntmps21
    go_wp2_with fail
    refine HW.out.mono ?_
    rintro e w' ⟨rfl, rfl⟩
    rw [HV.out]
    go_wp2_with fail
    refine bodyPost_ret (results_tmp2 rfl _ _ _) rfl ?_
    exact ⟨rfl, rfl⟩
  · have HV := Lib.hid hv
    clear hv h hs hx
    by_cases ht0 : t < 0
    · clear ht
      go_enter Try.func21, Try.ntmps21
      go_wp2_with fail
      refine HW.out.mono ?_
      rintro e w' ⟨rfl, rfl⟩
      rw [HV.out]
      go_wp2_with fail
      refine bodyPost_ret (results_tmp2 rfl _ _ _) rfl ?_
      exact ⟨rfl, rfl⟩
    · have k0 : 0 ≤ t := by omega
      have k1 : 1000000000000000 < t := by omega
      clear ht ht0
      go_enter Try.func21, Try.ntmps21
      go_wp2_with fail
      refine HW.out.mono ?_
      rintro e w' ⟨rfl, rfl⟩
      rw [HV.out]
      go_wp2_with fail
      refine bodyPost_ret (results_tmp2 rfl _ _ _) rfl ?_
      exact ⟨rfl, rfl⟩

/-- What the first loop has laid. -/
structure Laid1 (w0 w : World) (t : Int) (l : List Int) (k : Nat) (p r : Value) : Prop where
  rowP : RowI w w0.heap.size p (listN k fun i => (qN t l i : Int))
  rowR : RowI w w0.heap.size r (listN k fun i => (rN t l i : Int))
  apart : ∀ b, p.ownBlock = some b → r.ownBlock ≠ some b
  bel : Below w0.heap.size w0 w
theorem divAns_q (t : Int) (l : List Int) (i : Nat) (h : apOk t l) (hi : i < l.length) : divAns t.toNat (wN l i) (sumW l) = .tuple #[.int .i64 ((qN t l i : Nat) : Int), .int .i64 ((rN t l i : Nat) : Int), .bool true] := by
  have hq := qN_le t l i hi h.2.2.1
  unfold divAns
  have e : t.toNat * wN l i / sumW l = qN t l i := rfl
  have e2 : t.toNat * wN l i % sumW l = rN t l i := rfl
  have := h.1.2
  rw [e, e2, if_pos (by omega)]
theorem laid1_step {w0 w w2 w4 : World} {t : Int} {l : List Int} {k : Nat} {p r p' r' : Value} (h : Laid1 w0 w t l k p r)
    (hp : RowI w2 w0.heap.size p' (listN k (fun i => (qN t l i : Int)) ++ [((qN t l k : Nat) : Int)])) (gp : (w.alloc (.cells #[.int .i64 ((qN t l k : Nat) : Int)] 3)).grownBy w2 p.ownBlock) (np : p'.ownBlock = p.ownBlock ∨ p'.ownBlock = some (w.alloc (.cells #[.int .i64 ((qN t l k : Nat) : Int)] 3)).heap.size)
    (hr : RowI w4 w0.heap.size r' (listN k (fun i => (rN t l i : Int)) ++ [((rN t l k : Nat) : Int)])) (gr : (w2.alloc (.cells #[.int .i64 ((rN t l k : Nat) : Int)] 3)).grownBy w4 r.ownBlock) (nr : r'.ownBlock = r.ownBlock ∨ r'.ownBlock = some (w2.alloc (.cells #[.int .i64 ((rN t l k : Nat) : Int)] 3)).heap.size) : Laid1 w0 w4 t l (k + 1) p' r' := by
  have b1 := h.bel.size
  have bel2 : Below w0.heap.size w0 w2 := (h.bel.alloc b1 _).grown gp (by simp; omega) (fun q e => (World.ownsRow.lt h.rowP q e).1)
  have b2 := bel2.size
  have bel4 : Below w0.heap.size w0 w4 := (bel2.alloc b2 _).grown gr (by simp; omega) (fun q e => (World.ownsRow.lt h.rowR q e).1)
  -- the other row is kept, and stays apart
  have hap : ∀ b, p'.ownBlock = some b → r.ownBlock ≠ some b := by
    intro b hb
    rcases np with e | e
    · exact h.apart b (by rw [← e]; exact hb)
    · intro hr2
      have h3 := (World.ownsRow.lt h.rowR b hr2).2
      rw [e] at hb
      have := Option.some.inj hb
      simp at this
      omega
  have hlt2 : ∀ b, p'.ownBlock = some b → b < w2.heap.size := fun b hb => (World.ownsRow.lt hp b hb).2
  refine ⟨?_, ?_, ?_, bel4⟩
  · rw [listN_snoc]
    exact ((hp.alloc _).kept gr (fun b hb h2 => hap b hb h2))
  · rw [listN_snoc]; exact hr
  · intro b hb
    rcases nr with e | e
    · rw [e]; exact hap b hb
    · rw [e]
      intro h2
      have := Option.some.inj h2
      have h3 := hlt2 b hb
      simp at this
      omega
/-- What the second loop holds: some places have been dealt one each. -/
def restsOf (t : Int) (l : List Int) (S : Nat → Bool) : List Int := listN l.length (restOf (rN t l) S)
def partsOf (t : Int) (l : List Int) (S : Nat → Bool) : List Int := listN l.length fun i => ((qN t l i + if S i then 1 else 0 : Nat) : Int)
structure Dealt (w0 w : World) (t : Int) (l : List Int) (gp gr : Nat) (S : Nat → Bool) : Prop where
  atP : OwnAt w gp (partsOf t l S)
  atR : OwnAt w gr (restsOf t l S)
  init : Init (rN t l) l.length S
  bel : Below w0.heap.size w0 w
theorem dealt_start {w0 w : World} {t : Int} {l : List Int} {p r : Value} (h : Laid1 w0 w t l l.length p r) (hn : 1 ≤ l.length) :
    ∃ gp cp gr cr, p = .slice (some ⟨gp, 0, none⟩) l.length cp ∧ r = .slice (some ⟨gr, 0, none⟩) l.length cr ∧ l.length ≤ cp ∧ l.length ≤ cr ∧ gp ≠ gr ∧ w0.heap.size ≤ gp ∧ w0.heap.size ≤ gr ∧ Dealt w0 w t l gp gr (fun _ => false) := by
  obtain ⟨gp, cp, hp, hcp, hbp, op⟩ := h.rowP.own (by rw [listN_length]; exact hn)
  obtain ⟨gr, cr, hr, hcr, hbr, or⟩ := h.rowR.own (by rw [listN_length]; exact hn)
  rw [listN_length] at hp hr hcp hcr
  refine ⟨gp, cp, gr, cr, hp, hr, hcp, hcr, ?_, hbp, hbr, ⟨?_, ?_, init_empty _ _, h.bel⟩⟩
  · intro e
    exact h.apart gp (by rw [hp]; rfl) (by rw [hr, e]; rfl)
  · have e : partsOf t l (fun _ => false) = listN l.length fun i => (qN t l i : Int) := listN_congr _ _ _ fun i _ => by simp
    rw [e]; exact op
  · have e : restsOf t l (fun _ => false) = listN l.length fun i => (rN t l i : Int) := listN_congr _ _ _ fun i _ => by simp [restOf]
    rw [e]; exact or
theorem dealt_step {w0 w : World} {t : Int} {l : List Int} {gp gr : Nat} {S : Nat → Bool} (h : Dealt w0 w t l gp gr S) (hne : gp ≠ gr) (hbp : w0.heap.size ≤ gp) (hbr : w0.heap.size ≤ gr) (b : Nat)
    (hb : Best (restOf (rN t l) S) l.length b) (hsz : size l.length S < l.length) :
    Dealt w0 ((w.setCell ⟨gp, b, none⟩ (.int .i64 (((qN t l b : Nat) : Int) + 1))).setCell ⟨gr, b, none⟩ (.int .i64 (-1))) t l gp gr (fun i => S i || decide (i = b)) ∧ size l.length (fun i => S i || decide (i = b)) = size l.length S + 1 ∧ S b = false := by
  have hok := best_ok (rN t l) S l.length b hb (exists_out S l.length hsz)
  have hadd := init_add (rN t l) l.length S h.init b hb.1 hok.1 hok.2
  refine ⟨⟨?_, ?_, hadd.1, (h.bel.setCell hbp _).setCell hbr _⟩, hadd.2, hok.1⟩
  · have e : partsOf t l (fun i => S i || decide (i = b)) = (partsOf t l S).set b (((qN t l b : Nat) : Int) + 1) := by
      unfold partsOf
      rw [listN_set _ _ _ _ hb.1]
      refine listN_congr _ _ _ fun i _ => ?_
      by_cases e : i = b
      · subst e; simp
      · rw [if_neg e]; simp [e]
    rw [e]
    exact (h.atP.set b _).other (fun e => hne e.symm) _ _
  · have e : restsOf t l (fun i => S i || decide (i = b)) = (restsOf t l S).set b (-1) := by
      unfold restsOf
      rw [listN_set _ _ _ _ hb.1]
      refine listN_congr _ _ _ fun i _ => ?_
      unfold restOf
      by_cases e : i = b
      · subst e; simp
      · rw [if_neg e]; simp [e]
    rw [e]
    exact (h.atR.other hne _ _).set b _
theorem apOk_len {t : Int} {l : List Int} (h : apOk t l) : 1 ≤ l.length := by
  have := h.2.2.1
  rcases l with _ | ⟨x, l⟩
  · exact absurd this (by decide)
  · simp
/-- What the answer is: a row of its own with the parts. -/
def ApAns (w : World) (t : Int) (l : List Int) (e : Ending) (w' : World) : Prop := (∃ g cap, e = .returned (.tuple #[.slice (some ⟨g, 0, none⟩) l.length cap, .bool true]) ∧ l.length ≤ cap ∧ IntsAt w' g 0 (apL t l)) ∧ Below w.heap.size w w'
set_option maxRecDepth 100000 in
set_option maxHeartbeats 4000000 in
theorem refAp_ok (t : Int) (l : List Int) (A : Option Addr) (cap : Nat) (w : World) (hs : Ints w A l) (hl : l.length ≤ 100000) (hx : In64 l) (h : apOk t l) :
    Calls Try.prog 21 #[.int .i64 t, .slice A l.length cap] w (ApAns w t l) := by
  have HW := Lib.hid (weigh_calls l A cap w hs (by omega) hx)
  have HV := Lib.hid (wgV_ok t l h)
  have H := Lib.hid h
  have hn1 := apOk_len h
  obtain ⟨b, o, rfl, hI⟩ : ∃ b o, A = some ⟨b, o, none⟩ ∧ IntsAt w b o l := by
    rcases hs with h0 | ⟨b, o, h1, h2⟩
    · rw [h0] at hn1; simp at hn1
    · exact ⟨b, o, h1, h2⟩
  have HI := Lib.hid hI
  have t0 : 0 ≤ t := h.1.1
  have t1 : t ≤ 1000000000000000 := h.1.2
  have W0 := h.2.2.1
  have W1 := h.2.2.2
  obtain ⟨T, rfl⟩ := Int.eq_ofNat_of_zero_le t0
  have HT : Hid ((T : Int).toNat = T) := Lib.hid (Int.toNat_natCast T)
  have HQ : Hid (∀ k, k < l.length → Calls Try.prog 27 #[.int .i64 (T : Int), .int .i64 (l.getD k 0), .int .i64 ((sumW l : Nat) : Int)] = Calls Try.prog 27 #[.int .i64 (T : Int), .int .i64 ((wN l k : Nat) : Int), .int .i64 ((sumW l : Nat) : Int)]) := Lib.hid (fun k hk => by rw [wN_cast l k hk h.2.1])
  have HD : Hid (∀ k W, k < l.length → Calls Try.prog 27 #[.int .i64 (T : Int), .int .i64 ((wN l k : Nat) : Int), .int .i64 ((sumW l : Nat) : Int)] W fun e w' => e = .returned (.tuple #[.int .i64 ((qN T l k : Nat) : Int), .int .i64 ((rN T l k : Nat) : Int), .bool true]) ∧ W = w') := Lib.hid (fun k W hk => by
    have h2 := divide_calls T (wN l k) (sumW l) W (by omega) (by have := wN_le l k hk; omega) W0 (by omega)
    have h3 := divAns_q T l k h hk
    rw [Int.toNat_natCast] at h3
    rw [h3] at h2
    exact h2)
  have HC : Hid (∀ k, k < l.length → l.getD k 0 = ((wN l k : Nat) : Int)) := Lib.hid (fun k hk => wN_cast l k hk h.2.1)
  have HB : Hid (∀ k, k ≤ l.length → sumTo (qN T l) k ≤ T) := Lib.hid (fun k hk => by have := qSum_le T l k hk W0; rwa [Int.toNat_natCast] at this)
  have HL : Hid (lN T l = T - sumTo (qN T l) l.length ∧ lN T l ≤ l.length) := Lib.hid ⟨by unfold lN left3; rw [Int.toNat_natCast]; unfold qN; rw [Int.toNat_natCast]; rfl, left3_le _ _ _ W0⟩
  have HR : Hid (∀ k, k < l.length → rN T l k < sumW l) := Lib.hid (fun k _ => rN_lt T l k W0)
  clear HQ hI hs hx h t0 t1
  have kT : (T : Int) ≤ 1000000000000000 := by have := H.out.1.2; omega
  obtain ⟨W, hW⟩ : ∃ W, sumW l = W := ⟨_, rfl⟩
  obtain ⟨n, hn⟩ : ∃ n, l.length = n := ⟨_, rfl⟩
  have Hn := Lib.hid hn
  rw [hW] at HV HD W0 W1 HR
  rw [hn] at HW HD HC HB HL HR hl hn1 ⊢
  have Q : ApAns w T l = ApAns w T l := rfl
  clear Q hn hW
  go_enter Try.func21, Try.ntmps21
  go_wp2_with fail
  refine HW.out.mono ?_
  rintro e w' ⟨rfl, rfl⟩
  rw [HV.out]
  go_wp2_with fail
  go_loopw [8, 9, 10, 11] (fun pv rv lv iv wr => ∃ k L : Nat, k ≤ n ∧ iv = .int .i64 k ∧ lv = .int .i64 (L : Int) ∧ L ≤ T ∧ Hid (L + sumTo (qN T l) k = T) ∧ Hid (Laid1 w wr T l k pv rv)) (fun _ _ _ iv _ => n - (intOf iv).toNat)
  case atStart => exact ⟨0, T, by omega, rfl, rfl, by omega, Lib.hid rfl, Lib.hid ⟨RowI.nil _ _, RowI.nil _ _, fun b hb => by simp [Value.ownBlock] at hb, Below.refl _ _⟩⟩
  case round =>
    obtain ⟨k, L, hk, rfl, rfl, hLT, HS, HLd⟩ := hrel
    by_cases hlt : k < n
    · have c1 : wr.cell? ⟨b, o + k, none⟩ = some (.int .i64 ((wN l k : Nat) : Int)) := by
        have := (HI.out.keep (HLd.out.bel)) k (by rw [Hn.out]; exact hlt)
        rwa [HC.out k hlt] at this
      have HDk := Lib.hid (fun W => HD.out k W hlt)
      have hbk := HB.out (k + 1) (by omega)
      have hse : sumTo (qN T l) (k + 1) = sumTo (qN T l) k + qN T l k := rfl
      have hqL : qN T l k ≤ L := by have := HS.out; omega
      have HS2 : Hid (L - qN T l k + sumTo (qN T l) (k + 1) = T) := Lib.hid (by have := HS.out; omega)
      have hrk := HR.out k hlt
      clear hbk hse
      have hsz := HLd.out.bel.size
      obtain ⟨v2, w2, hr2, hv2, hg2, hn2⟩ := append_one w.heap.size wr HLd.out.rowP ((qN T l k : Nat) : Int) hsz (by rw [listN_length]; omega) 29
      have hsz2 : w.heap.size ≤ w2.heap.size := ((HLd.out.bel.alloc hsz _).grown hg2 (by simp; omega) (fun q e => (World.ownsRow.lt HLd.out.rowP q e).1)).size
      have hr2' : RowI w2 w.heap.size u9 (listN k fun i => (rN T l i : Int)) := (HLd.out.rowR.alloc _).kept hg2 (fun b hb h2 => HLd.out.apart b h2 hb)
      obtain ⟨v4, w4, hr4, hv4, hg4, hn4⟩ := append_one w.heap.size w2 hr2' ((rN T l k : Nat) : Int) hsz2 (by rw [listN_length]; omega) 29
      have HLd4 := Lib.hid (laid1_step HLd.out hv2 hg2 hn2 hv4 hg4 hn4)
      clear HS HLd hsz hsz2 hv2 hg2 hn2 hv4 hg4 hn4 hr2'
      generalize wN l k = x at *
      generalize qN T l k = q at *
      generalize rN T l k = r at *
      have k0 : (0 : Int) ≤ (k : Int) := by omega
      have k1 : (k : Int) < (n : Int) := by omega
      have k2 : (q : Int) ≤ (L : Int) := by omega
      go_wp2_with fail
      refine (HDk.out _).mono ?_
      rintro e w' ⟨rfl, rfl⟩
      clear HDk
      go_wp2_with (at_builtin; first
        | (refine wpList_append_run rfl _ _ 29 rfl _ _ rfl rfl hr2 ?_)
        | (refine wpList_append_run rfl _ _ 29 rfl _ _ rfl rfl hr4 ?_))
      go_roundw
      case rel => exact ⟨k + 1, L - q, by omega, by go_num, by go_num, by omega, HS2, HLd4⟩
      case measure => simp [intOf]; omega
    · obtain rfl : k = n := by omega
      have HLn : Hid (L = lN T l) := Lib.hid (by have h1 := HL.out.1; have h2 := HS.out; omega)
      have hds := dealt_start (by rw [Hn.out]; exact HLd.out) (by rw [Hn.out]; exact hn1)
      obtain ⟨gp, cp, gr, cr, rfl, rfl, hcp, hcr, hne, hbp, hbr, hd0⟩ := hds
      rw [Hn.out] at hcp hcr ⊢
      have HD0 := Lib.hid hd0
      have HNE := Lib.hid hne
      clear hd0 HLd HS HD HC HB hne
      go_wp2_with fail
      go_loopw [10, 15, 16] (fun lv _ _ wz => ∃ (m : Nat) (S : Nat → Bool), lv = .int .i64 (m : Int) ∧ m ≤ T ∧ Hid (m + size k S = lN T l) ∧ Hid (Dealt w wz T l gp gr S)) (fun lv _ _ _ => (intOf lv).toNat)
      case atStart => exact ⟨L, _, rfl, hLT, Lib.hid (by rw [size_empty, ← HLn.out]; rfl), HD0⟩
      case round =>
        clear HD0 HLn hLT
        obtain ⟨m, S, rfl, hmT, HM, HDz⟩ := hrel
        by_cases hm : 1 ≤ m
        · have hsz : size k S < k := by have h1 := HL.out.2; have h2 := HM.out; omega
          have HSZ := Lib.hid hsz
          clear hsz
          go_wp2_with fail
          obtain ⟨wo, rfl⟩ : ∃ wo : World, wo = wr := ⟨_, rfl⟩
          go_loopw [15, 16] (fun bv iv wi => ∃ b i : Nat, bv = .int .i64 (b : Int) ∧ iv = .int .i64 (i : Int) ∧ i ≤ k ∧ b < k ∧ Hid (Best (restOf (rN T l) S) i b) ∧ Hid (Dealt w wi T l gp gr S)) (fun _ iv _ => k - (intOf iv).toNat)
          case atStart => exact ⟨0, 1, rfl, rfl, by omega, by omega, Lib.hid (best_one _), HDz⟩
          case round =>
            clear HDz
            obtain ⟨b2, i, rfl, rfl, hi, hb, HBst, HDz⟩ := hrel
            by_cases hlt2 : i < k
            · have hi2 := HDz.out.atR i (by unfold restsOf; rw [listN_length, Hn.out]; exact hlt2)
              have hb2 := HDz.out.atR b2 (by unfold restsOf; rw [listN_length, Hn.out]; exact hb)
              have ei : (restsOf T l S).getD i 0 = restOf (rN T l) S i := by unfold restsOf; rw [Hn.out, listN_get _ _ _ hlt2]
              have eb : (restsOf T l S).getD b2 0 = restOf (rN T l) S b2 := by unfold restsOf; rw [Hn.out, listN_get _ _ _ hb]
              rw [ei] at hi2
              rw [eb] at hb2
              have c1 := hi2.1
              have c2 := hb2.1
              have HK := Lib.hid (fun h => best_keep (restOf (rN T l) S) i b2 HBst.out h)
              have HTn := Lib.hid (fun h => best_turn (restOf (rN T l) S) i b2 HBst.out h)
              clear ei eb hi2 hb2 HBst
              generalize restOf (rN T l) S i = x at *
              generalize restOf (rN T l) S b2 = y at *
              have k0 : (0 : Int) ≤ (i : Int) := by omega
              have k1 : (i : Int) < (k : Int) := by omega
              have k2 : (0 : Int) ≤ (b2 : Int) := by omega
              have k3 : (b2 : Int) < (k : Int) := by omega
              by_cases hxy : y < x
              · have HN := Lib.hid (HTn.out hxy)
                clear HK HTn
                go_wp2_with fail
                go_quiet (fail)
                go_wp2_with fail
                go_roundw
                case rel => exact ⟨i, i + 1, rfl, by go_num, by omega, by omega, HN, Lib.hid ⟨HDz.out.atP.drewN _, HDz.out.atR.drewN _, HDz.out.init, below_drewN HDz.out.bel _⟩⟩
                case measure => simp [intOf]; omega
              · have HN := Lib.hid (HK.out hxy)
                have k4 : decide (y < x) = false := decide_eq_false hxy
                clear HK HTn hxy
                go_wp2_with fail
                go_quiet (fail)
                go_wp2_with fail
                go_roundw
                case rel => exact ⟨b2, i + 1, rfl, by go_num, by omega, by omega, HN, Lib.hid ⟨HDz.out.atP.drewN _, HDz.out.atR.drewN _, HDz.out.init, below_drewN HDz.out.bel _⟩⟩
                case measure => simp [intOf]; omega
            · obtain rfl : i = k := by omega
              have hstep := dealt_step HDz.out HNE.out hbp hbr b2 (by rw [Hn.out]; exact HBst.out) (by rw [Hn.out]; exact HSZ.out)
              rw [Hn.out] at hstep
              obtain ⟨hd2, hs2, hsb⟩ := hstep
              have HD2 := Lib.hid hd2
              have HM2 : Hid (m - 1 + size i (fun j => S j || decide (j = b2)) = lN T l) := Lib.hid (by rw [hs2]; have := HM.out; omega)
              have hp2 := HDz.out.atP b2 (by unfold partsOf; rw [listN_length, Hn.out]; exact hb)
              have ep : (partsOf T l S).getD b2 0 = ((qN T l b2 : Nat) : Int) := by unfold partsOf; rw [Hn.out, listN_get _ _ _ hb, hsb]; simp
              rw [ep] at hp2
              have hr2 := HDz.out.atR b2 (by unfold restsOf; rw [listN_length, Hn.out]; exact hb)
              obtain ⟨y, hy⟩ : ∃ y, (restsOf T l S).getD b2 0 = y := ⟨_, rfl⟩
              rw [hy] at hr2
              have hqb : qN T l b2 ≤ T := by have := qN_le T l b2 (by rw [Hn.out]; exact hb) (by have := H.out.2.2.1; omega); rwa [HT.out] at this
              have c1 := hp2.1
              have f1 := hp2.2
              have c2 : (wr.setCell ⟨gp, b2, none⟩ (.int .i64 (((qN T l b2 : Nat) : Int) + 1))).cell? ⟨gr, b2, none⟩ = some (.int .i64 y) := by
                rw [World.cell?_setCell_other _ _ _ _ (by intro h2; exact HNE.out (by injection h2))]; exact hr2.1
              have f2 := hr2.2
              clear hd2 hs2 hsb hp2 hr2 ep hy HDz HBst HM
              generalize qN T l b2 = q at *
              have k2 : (0 : Int) ≤ (b2 : Int) := by omega
              have k3 : (b2 : Int) < (i : Int) := by omega
              go_wp2_with fail
              go_roundw
              case rel => exact ⟨m - 1, _, by go_num, by omega, HM2, HD2⟩
              case measure => simp [intOf]; omega
        · obtain rfl : m = 0 := by omega
          have HP := Lib.hid (show IntsAt wr gp 0 (apL T l) from by
            have h2 := HDz.out.atP.ints
            unfold partsOf at h2
            rw [parts_of T l S HDz.out.init (by rw [Hn.out]; have := HM.out; omega)] at h2
            exact h2)
          have HBl := Lib.hid HDz.out.bel
          clear HDz HM hm
          go_wp2_with fail
          refine bodyPost_ret (results_tmp2 rfl _ _ _) rfl ?_
          exact ⟨⟨gp, cp, by rw [Hn.out]; rfl, by rw [Hn.out]; exact hcp, HP.out⟩, HBl.out⟩
end Go.Proofs.Ytediphiebamffaa
