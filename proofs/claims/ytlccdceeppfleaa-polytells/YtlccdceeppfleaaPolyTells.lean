/- For every two lists of bytes, every byte and every two lists of places and values PolyTells answers true, and nothing that was handed in is changed. -/
import Derived.Test.YtlccdceeppfleaaRows
import Derived.Test.YtlccdceeppfleaaMeetOf
import Derived.WalkKit
import Derived.ProofKit
import Derived.OpenShut
import Derived.ShutString
import Derived.ChangeOld
import Derived.Below
import Derived.SizedLaws
namespace Go.Proofs.Ytlccdceeppfleaa.polyTells
open Go.ChangeShapes Go.WideShapes Go.ChangeAt Go.RowKit
open Go.ChangeMaps (open_string shut_string)
set_option linter.unusedVariables false

theorem own : ownKnob Try.prog.godebug = none := by kernel_rfl
theorem laidOut : laidOutB Try.prog = true := by kernel_rfl

/-- what Mul and Divide answer beside -/
def mer (P Q : List Nat) : Nat := if 64 < P.length ∨ 64 < Q.length then 2 else 0
def mpm (P Q : List Nat) : List Nat := if 64 < P.length ∨ 64 < Q.length then [] else pm P Q
def der (P Q : List Nat) : Nat := if 64 < P.length ∨ 64 < Q.length then 2 else if trim Q = [] then 5 else 0
def dq (P Q : List Nat) : List Nat := if 64 < P.length ∨ 64 < Q.length then [] else if trim Q = [] then [] else pdq P Q
def dr (P Q : List Nat) : List Nat := if 64 < P.length ∨ 64 < Q.length then [] else if trim Q = [] then [] else pdr P Q
def ter (xs ys : List Nat) : Nat := if 64 < xs.length then 2 else if xs.length ≠ ys.length then 1 else match mst xs ys xs.length with
  | none => 6
  | some _ => 0
def tl (xs ys : List Nat) : List Nat := if 64 < xs.length then [] else if xs.length ≠ ys.length then [] else match mst xs ys xs.length with
  | none => []
  | some s => trim s.1
theorem mul_all (pv qv : Value) (P Q : List Nat) (w : World) (hP : Bs w.heap.size w pv P) (hQ : Bs w.heap.size w qv Q) (er : Nat) (her : mer P Q = er) :
    Calls Try.prog 9 #[pv, qv] w fun e w' => ∃ v, e = .returned (.tuple #[v, .int .i64 (er : Nat)]) ∧ Bs w'.heap.size w' v (mpm P Q) ∧ Below w.heap.size w w' := by
  unfold mpm
  unfold mer at her
  subst her
  by_cases h : 64 < P.length ∨ 64 < Q.length
  · rw [if_pos h, if_pos h]
    exact (mul_long pv qv P Q w hP hQ h).mono fun e w' ⟨h1, h2⟩ => ⟨_, h1, Bs.nil _ _, h2⟩
  · rw [if_neg h, if_neg h]
    exact (mulp_any pv qv P Q w hP hQ (by omega) (by omega)).mono fun e w' ⟨v, h1, h2, h3⟩ => ⟨v, h1, h2.bs, h3⟩
set_option maxRecDepth 100000 in
set_option maxHeartbeats 1000000 in
theorem prodOf_long (pv qv : Value) (P Q : List Nat) (w : World) (hP : Bs w.heap.size w pv P) (hQ : Bs w.heap.size w qv Q) (h : 64 < P.length ∨ 64 < Q.length) :
    Calls Try.prog 12 #[pv, qv] w fun e w' => e = .returned (.tuple #[.slice none 0 0, .int .i64 2]) ∧ w' = w := by
  obtain ⟨_, p2, ao, cap, rfl, _⟩ := hP
  obtain ⟨_, q2, bo, cbp, rfl, _⟩ := hQ
  by_cases c : 64 < P.length
  · have z : decide ((64 : Int) < (P.length : Int)) = true := decide_eq_true (by omega)
    go_enter Try.func12, Try.ntmps12
    go_wp2_with fail
    go_ret2
    exact ⟨rfl, rfl⟩
  · have z : decide ((64 : Int) < (P.length : Int)) = false := decide_eq_false (by omega)
    have z2 : decide ((64 : Int) < (Q.length : Int)) = true := decide_eq_true (by omega)
    go_enter Try.func12, Try.ntmps12
    go_wp2_with fail
    go_ret2
    exact ⟨rfl, rfl⟩
set_option maxRecDepth 100000 in
set_option maxHeartbeats 1000000 in
theorem prodOf_ok (pv qv : Value) (P Q : List Nat) (w : World) (hP : Bs w.heap.size w pv P) (hQ : Bs w.heap.size w qv Q) (lp : P.length ≤ 64) (lq : Q.length ≤ 64) :
    Calls Try.prog 12 #[pv, qv] w fun e w' => ∃ v, e = .returned (.tuple #[v, .int .i64 0]) ∧ Ow w.heap.size w' v (pm P Q) ∧ Below w.heap.size w w' := by
  have HP := hid_of hP
  have HQ := hid_of hQ
  obtain ⟨_, p2, ao, cap, rfl, _⟩ := hP
  obtain ⟨_, q2, bo, cbp, rfl, _⟩ := hQ
  have z : decide ((64 : Int) < (P.length : Int)) = false := decide_eq_false (by omega)
  have z2 : decide ((64 : Int) < (Q.length : Int)) = false := decide_eq_false (by omega)
  go_enter Try.func12, Try.ntmps12
  go_wp2_with fail
  refine (timesOf_any _ _ P Q _ HP.out HQ.out (by omega) (by omega)).mono ?_
  rintro e w1 ⟨v, rfl, hO, hB⟩
  go_wp2_with fail
  go_ret2
  exact ⟨_, rfl, hO, hB⟩
theorem prodOf_all (pv qv : Value) (P Q : List Nat) (w : World) (hP : Bs w.heap.size w pv P) (hQ : Bs w.heap.size w qv Q) (er : Nat) (her : mer P Q = er) :
    Calls Try.prog 12 #[pv, qv] w fun e w' => ∃ v, e = .returned (.tuple #[v, .int .i64 (er : Nat)]) ∧ Bs w'.heap.size w' v (mpm P Q) ∧ Below w.heap.size w w' := by
  unfold mpm
  unfold mer at her
  subst her
  by_cases h : 64 < P.length ∨ 64 < Q.length
  · rw [if_pos h, if_pos h]
    refine (prodOf_long pv qv P Q w hP hQ h).mono fun e w' ⟨h1, h2⟩ => ?_
    subst h2
    exact ⟨_, h1, Bs.nil _ _, Below.refl _ _⟩
  · rw [if_neg h, if_neg h]
    exact (prodOf_ok pv qv P Q w hP hQ (by omega) (by omega)).mono fun e w' ⟨v, h1, h2, h3⟩ => ⟨v, h1, h2.bs, h3⟩
theorem div_all (pv qv : Value) (P Q : List Nat) (w : World) (hP : Bs w.heap.size w pv P) (hQ : Bs w.heap.size w qv Q) (er : Nat) (her : der P Q = er) :
    Calls Try.prog 10 #[pv, qv] w fun e w' => ∃ v r, e = .returned (.tuple #[v, r, .int .i64 (er : Nat)]) ∧ Bs w'.heap.size w' v (dq P Q) ∧ Bs w'.heap.size w' r (dr P Q) ∧ Below w.heap.size w w' := by
  unfold dq dr
  unfold der at her
  subst her
  by_cases h : 64 < P.length ∨ 64 < Q.length
  · rw [if_pos h, if_pos h, if_pos h]
    exact (div_long pv qv P Q w hP hQ h).mono fun e w' ⟨h1, h2⟩ => ⟨_, _, h1, Bs.nil _ _, Bs.nil _ _, h2⟩
  · rw [if_neg h, if_neg h, if_neg h]
    by_cases t : trim Q = []
    · rw [if_pos t, if_pos t, if_pos t]
      exact (div_none pv qv P Q w hP hQ (by omega) (by omega) t).mono fun e w' ⟨h1, h2⟩ => ⟨_, _, h1, Bs.nil _ _, Bs.nil _ _, h2⟩
    · rw [if_neg t, if_neg t, if_neg t]
      exact (div_any pv qv P Q w hP hQ (by omega) (by omega) t).mono fun e w' ⟨v, r, h1, h2, h3, h4⟩ => ⟨v, r, h1, h2.bs, h3.bs, h4⟩
theorem divOf_all (pv qv : Value) (P Q : List Nat) (w : World) (hP : Bs w.heap.size w pv P) (hQ : Bs w.heap.size w qv Q) (er : Nat) (her : der P Q = er) :
    Calls Try.prog 13 #[pv, qv] w fun e w' => ∃ v r, e = .returned (.tuple #[v, r, .int .i64 (er : Nat)]) ∧ Bs w'.heap.size w' v (dq P Q) ∧ Bs w'.heap.size w' r (dr P Q) ∧ Below w.heap.size w w' := by
  unfold dq dr
  unfold der at her
  subst her
  by_cases h : 64 < P.length ∨ 64 < Q.length
  · rw [if_pos h, if_pos h, if_pos h]
    refine (divOf_long pv qv P Q w hP hQ h).mono fun e w' ⟨h1, h2⟩ => ?_
    subst h2
    exact ⟨_, _, h1, Bs.nil _ _, Bs.nil _ _, Below.refl _ _⟩
  · rw [if_neg h, if_neg h, if_neg h]
    by_cases t : trim Q = []
    · rw [if_pos t, if_pos t, if_pos t]
      exact (divOf_none pv qv P Q w hP hQ (by omega) (by omega) t).mono fun e w' ⟨h1, h2⟩ => ⟨_, _, h1, Bs.nil _ _, Bs.nil _ _, h2⟩
    · rw [if_neg t, if_neg t, if_neg t]
      exact (divOf_any pv qv P Q w hP hQ (by omega) (by omega) t).mono fun e w' ⟨⟨v, r, h1, h2, h3⟩, h4⟩ => ⟨v, r, h1, h2, h3, h4⟩
theorem meet_al (pv qv : Value) (P Q : List Nat) (w : World) (hP : Bs w.heap.size w pv P) (hQ : Bs w.heap.size w qv Q) (er : Nat) (her : ter P Q = er) :
    Calls Try.prog 11 #[pv, qv] w fun e w' => ∃ v, e = .returned (.tuple #[v, .int .i64 (er : Nat)]) ∧ Bs w'.heap.size w' v (tl P Q) ∧ Below w.heap.size w w' := by
  unfold tl
  unfold ter at her
  subst her
  by_cases h : 64 < P.length
  · rw [if_pos h, if_pos h]
    exact (meet_long pv qv P Q w hP hQ h).mono fun e w' ⟨h1, h2⟩ => ⟨_, h1, Bs.nil _ _, h2⟩
  · rw [if_neg h, if_neg h]
    by_cases t : P.length ≠ Q.length
    · rw [if_pos t, if_pos t]
      exact (meet_form pv qv P Q w hP hQ (by omega) t).mono fun e w' ⟨h1, h2⟩ => ⟨_, h1, Bs.nil _ _, h2⟩
    · rw [if_neg t, if_neg t]
      refine (meet_any pv qv P Q w hP hQ (by omega) (by omega)).mono fun e w' ⟨h1, h2⟩ => ?_
      cases hs : mst P Q P.length with
      | none => rw [hs] at h1; exact ⟨_, h1, Bs.nil _ _, h2⟩
      | some s => rw [hs] at h1; obtain ⟨v, h1, h3⟩ := h1; exact ⟨_, h1, h3.bs, h2⟩
theorem meetOf_al (pv qv : Value) (P Q : List Nat) (w : World) (hP : Bs w.heap.size w pv P) (hQ : Bs w.heap.size w qv Q) (er : Nat) (her : ter P Q = er) :
    Calls Try.prog 14 #[pv, qv] w fun e w' => ∃ v, e = .returned (.tuple #[v, .int .i64 (er : Nat)]) ∧ Bs w'.heap.size w' v (tl P Q) ∧ Below w.heap.size w w' := by
  unfold tl
  unfold ter at her
  subst her
  by_cases h : 64 < P.length
  · rw [if_pos h, if_pos h]
    refine (meetOf_long pv qv P Q w hP hQ h).mono fun e w' ⟨h1, h2⟩ => ?_
    subst h2
    exact ⟨_, h1, Bs.nil _ _, Below.refl _ _⟩
  · rw [if_neg h, if_neg h]
    by_cases t : P.length ≠ Q.length
    · rw [if_pos t, if_pos t]
      refine (meetOf_form pv qv P Q w hP hQ (by omega) t).mono fun e w' ⟨h1, h2⟩ => ?_
      subst h2
      exact ⟨_, h1, Bs.nil _ _, Below.refl _ _⟩
    · rw [if_neg t, if_neg t]
      refine (meetOf_any pv qv P Q w hP hQ (by omega) (by omega)).mono fun e w' ⟨h1, h2⟩ => ?_
      cases hs : mst P Q P.length with
      | none => rw [hs] at h1; exact ⟨_, h1, Bs.nil _ _, h2⟩
      | some s => rw [hs] at h1; obtain ⟨v, h1, h3⟩ := h1; exact ⟨_, h1, h3, h2⟩
set_option maxRecDepth 100000 in
set_option maxHeartbeats 16000000 in
theorem walk_nat (v0 : Value) (L0 : List Nat) (v1 : Value) (L1 : List Nat) (X : Nat) (v3 : Value) (L3 : List Nat) (v4 : Value) (L4 : List Nat) (hX : X < 256) (w : World) (w0 : Bs w.heap.size w v0 L0) (w1 : Bs w.heap.size w v1 L1) (w3 : Bs w.heap.size w v3 L3) (w4 : Bs w.heap.size w v4 L4) :
    Calls Try.prog 3 #[v0, v1, .int .u8 X, v3, v4] w fun e w' => e = .returned (.bool true) ∧ Below w.heap.size w w' := by
  have H0 := hid_of w0
  have H1 := hid_of w1
  have H3 := hid_of w3
  have H4 := hid_of w4
  obtain ⟨em, hem⟩ : ∃ n, mer L0 L1 = n := ⟨_, rfl⟩
  obtain ⟨ed, hed⟩ : ∃ n, der L0 L1 = n := ⟨_, rfl⟩
  obtain ⟨et, het⟩ : ∃ n, ter L3 L4 = n := ⟨_, rfl⟩
  have EM := hid_of hem
  have ED := hid_of hed
  have ET := hid_of het
  have hpl := pval_lt w0.1 X
  obtain ⟨pv, hpv⟩ : ∃ n, pval L0 X = n := ⟨_, rfl⟩
  rw [hpv] at hpl
  have PV := hid_of hpv
  clear w0 w1 w3 w4 hem hed het hpv
  go_enter Try.func3, Try.ntmps3
  go_wp2_with fail
  refine (mul_all _ _ L0 L1 _ H0.out H1.out em EM.out).mono ?_
  rintro e w_1 ⟨vm, rfl, hO, hB⟩
  have nw := hid_of hO
  clear hO
  have H0 := hid_of ((H0.out.below hB).mono hB.size)
  have H1 := hid_of ((H1.out.below hB).mono hB.size)
  have H3 := hid_of ((H3.out.below hB).mono hB.size)
  have H4 := hid_of ((H4.out.below hB).mono hB.size)
  have BB := hid_of hB
  clear hB
  have Hm := nw
  clear nw
  go_wp2_with fail
  refine (div_all _ _ L0 L1 _ H0.out H1.out ed ED.out).mono ?_
  rintro e w_2 ⟨va, vb, rfl, hO, hR, hB⟩
  have nw := hid_of hO
  have nr := hid_of hR
  clear hO hR
  have H0 := hid_of ((H0.out.below hB).mono hB.size)
  have H1 := hid_of ((H1.out.below hB).mono hB.size)
  have H3 := hid_of ((H3.out.below hB).mono hB.size)
  have H4 := hid_of ((H4.out.below hB).mono hB.size)
  have Hm := hid_of ((Hm.out.below hB).mono hB.size)
  have BB := hid_of (BB.out.trans (hB.mono BB.out.size))
  clear hB
  have Ha := nw
  have Hb := nr
  clear nw nr
  go_wp2_with fail
  refine (meet_al _ _ L3 L4 _ H3.out H4.out et ET.out).mono ?_
  rintro e w_3 ⟨vt, rfl, hO, hB⟩
  have nw := hid_of hO
  clear hO
  have H0 := hid_of ((H0.out.below hB).mono hB.size)
  have H1 := hid_of ((H1.out.below hB).mono hB.size)
  have H3 := hid_of ((H3.out.below hB).mono hB.size)
  have H4 := hid_of ((H4.out.below hB).mono hB.size)
  have Hm := hid_of ((Hm.out.below hB).mono hB.size)
  have Ha := hid_of ((Ha.out.below hB).mono hB.size)
  have Hb := hid_of ((Hb.out.below hB).mono hB.size)
  have BB := hid_of (BB.out.trans (hB.mono BB.out.size))
  clear hB
  have Ht := nw
  clear nw
  go_wp2_with fail
  refine (prodOf_all _ _ L0 L1 _ H0.out H1.out em EM.out).mono ?_
  rintro e w_4 ⟨vn, rfl, hO, hB⟩
  have nw := hid_of hO
  clear hO
  have H0 := hid_of ((H0.out.below hB).mono hB.size)
  have H1 := hid_of ((H1.out.below hB).mono hB.size)
  have H3 := hid_of ((H3.out.below hB).mono hB.size)
  have H4 := hid_of ((H4.out.below hB).mono hB.size)
  have Hm := hid_of ((Hm.out.below hB).mono hB.size)
  have Ha := hid_of ((Ha.out.below hB).mono hB.size)
  have Hb := hid_of ((Hb.out.below hB).mono hB.size)
  have Ht := hid_of ((Ht.out.below hB).mono hB.size)
  have BB := hid_of (BB.out.trans (hB.mono BB.out.size))
  clear hB
  have Hn := nw
  clear nw
  go_wp2_with fail
  refine (divOf_all _ _ L0 L1 _ H0.out H1.out ed ED.out).mono ?_
  rintro e w_5 ⟨vc, vd, rfl, hO, hR, hB⟩
  have nw := hid_of hO
  have nr := hid_of hR
  clear hO hR
  have H0 := hid_of ((H0.out.below hB).mono hB.size)
  have H1 := hid_of ((H1.out.below hB).mono hB.size)
  have H3 := hid_of ((H3.out.below hB).mono hB.size)
  have H4 := hid_of ((H4.out.below hB).mono hB.size)
  have Hm := hid_of ((Hm.out.below hB).mono hB.size)
  have Ha := hid_of ((Ha.out.below hB).mono hB.size)
  have Hb := hid_of ((Hb.out.below hB).mono hB.size)
  have Ht := hid_of ((Ht.out.below hB).mono hB.size)
  have Hn := hid_of ((Hn.out.below hB).mono hB.size)
  have BB := hid_of (BB.out.trans (hB.mono BB.out.size))
  clear hB
  have Hc := nw
  have Hd := nr
  clear nw nr
  go_wp2_with fail
  refine (meetOf_al _ _ L3 L4 _ H3.out H4.out et ET.out).mono ?_
  rintro e w_6 ⟨vu, rfl, hO, hB⟩
  have nw := hid_of hO
  clear hO
  have H0 := hid_of ((H0.out.below hB).mono hB.size)
  have H1 := hid_of ((H1.out.below hB).mono hB.size)
  have H3 := hid_of ((H3.out.below hB).mono hB.size)
  have H4 := hid_of ((H4.out.below hB).mono hB.size)
  have Hm := hid_of ((Hm.out.below hB).mono hB.size)
  have Ha := hid_of ((Ha.out.below hB).mono hB.size)
  have Hb := hid_of ((Hb.out.below hB).mono hB.size)
  have Ht := hid_of ((Ht.out.below hB).mono hB.size)
  have Hn := hid_of ((Hn.out.below hB).mono hB.size)
  have Hc := hid_of ((Hc.out.below hB).mono hB.size)
  have Hd := hid_of ((Hd.out.below hB).mono hB.size)
  have BB := hid_of (BB.out.trans (hB.mono BB.out.size))
  clear hB
  have Hu := nw
  clear nw
  go_wp2_with fail
  refine (begun_any _).mono ?_
  rintro e w_7 ⟨rfl, hB⟩
  have H0 := hid_of ((H0.out.below hB).mono hB.size)
  have H1 := hid_of ((H1.out.below hB).mono hB.size)
  have H3 := hid_of ((H3.out.below hB).mono hB.size)
  have H4 := hid_of ((H4.out.below hB).mono hB.size)
  have Hm := hid_of ((Hm.out.below hB).mono hB.size)
  have Ha := hid_of ((Ha.out.below hB).mono hB.size)
  have Hb := hid_of ((Hb.out.below hB).mono hB.size)
  have Ht := hid_of ((Ht.out.below hB).mono hB.size)
  have Hn := hid_of ((Hn.out.below hB).mono hB.size)
  have Hc := hid_of ((Hc.out.below hB).mono hB.size)
  have Hd := hid_of ((Hd.out.below hB).mono hB.size)
  have Hu := hid_of ((Hu.out.below hB).mono hB.size)
  have BB := hid_of (BB.out.trans (hB.mono BB.out.size))
  clear hB
  go_wp2_with fail
  refine (trim_any _ L0 _ H0.out).mono ?_
  rintro e w_8 ⟨vx, rfl, hO, hB⟩
  have nw := hid_of hO.bs
  clear hO
  have H0 := hid_of ((H0.out.below hB).mono hB.size)
  have H1 := hid_of ((H1.out.below hB).mono hB.size)
  have H3 := hid_of ((H3.out.below hB).mono hB.size)
  have H4 := hid_of ((H4.out.below hB).mono hB.size)
  have Hm := hid_of ((Hm.out.below hB).mono hB.size)
  have Ha := hid_of ((Ha.out.below hB).mono hB.size)
  have Hb := hid_of ((Hb.out.below hB).mono hB.size)
  have Ht := hid_of ((Ht.out.below hB).mono hB.size)
  have Hn := hid_of ((Hn.out.below hB).mono hB.size)
  have Hc := hid_of ((Hc.out.below hB).mono hB.size)
  have Hd := hid_of ((Hd.out.below hB).mono hB.size)
  have Hu := hid_of ((Hu.out.below hB).mono hB.size)
  have BB := hid_of (BB.out.trans (hB.mono BB.out.size))
  clear hB
  have Hx := nw
  clear nw
  go_wp2_with fail
  refine (trimOf_any _ L0 _ H0.out).mono ?_
  rintro e w_9 ⟨vy, rfl, hO, hB⟩
  have nw := hid_of hO.bs
  clear hO
  have H0 := hid_of ((H0.out.below hB).mono hB.size)
  have H1 := hid_of ((H1.out.below hB).mono hB.size)
  have H3 := hid_of ((H3.out.below hB).mono hB.size)
  have H4 := hid_of ((H4.out.below hB).mono hB.size)
  have Hm := hid_of ((Hm.out.below hB).mono hB.size)
  have Ha := hid_of ((Ha.out.below hB).mono hB.size)
  have Hb := hid_of ((Hb.out.below hB).mono hB.size)
  have Ht := hid_of ((Ht.out.below hB).mono hB.size)
  have Hn := hid_of ((Hn.out.below hB).mono hB.size)
  have Hc := hid_of ((Hc.out.below hB).mono hB.size)
  have Hd := hid_of ((Hd.out.below hB).mono hB.size)
  have Hu := hid_of ((Hu.out.below hB).mono hB.size)
  have Hx := hid_of ((Hx.out.below hB).mono hB.size)
  have BB := hid_of (BB.out.trans (hB.mono BB.out.size))
  clear hB
  have Hy := nw
  clear nw
  go_wp2_with fail
  refine (same_any _ _ _ _ _ _ Hx.out Hy.out).mono ?_
  rintro e w_10 ⟨rfl, hB⟩
  rw [decide_eq_true rfl]
  have H0 := hid_of ((H0.out.below hB).mono hB.size)
  have H1 := hid_of ((H1.out.below hB).mono hB.size)
  have H3 := hid_of ((H3.out.below hB).mono hB.size)
  have H4 := hid_of ((H4.out.below hB).mono hB.size)
  have Hm := hid_of ((Hm.out.below hB).mono hB.size)
  have Ha := hid_of ((Ha.out.below hB).mono hB.size)
  have Hb := hid_of ((Hb.out.below hB).mono hB.size)
  have Ht := hid_of ((Ht.out.below hB).mono hB.size)
  have Hn := hid_of ((Hn.out.below hB).mono hB.size)
  have Hc := hid_of ((Hc.out.below hB).mono hB.size)
  have Hd := hid_of ((Hd.out.below hB).mono hB.size)
  have Hu := hid_of ((Hu.out.below hB).mono hB.size)
  have Hx := hid_of ((Hx.out.below hB).mono hB.size)
  have Hy := hid_of ((Hy.out.below hB).mono hB.size)
  have BB := hid_of (BB.out.trans (hB.mono BB.out.size))
  clear hB
  go_wp2_with fail
  refine (value_any _ _ (by omega) (by omega) L0 _ H0.out).mono ?_
  rintro e w_11 ⟨rfl, hB⟩
  rw [Int.toNat_natCast, PV.out]
  have H0 := hid_of ((H0.out.below hB).mono hB.size)
  have H1 := hid_of ((H1.out.below hB).mono hB.size)
  have H3 := hid_of ((H3.out.below hB).mono hB.size)
  have H4 := hid_of ((H4.out.below hB).mono hB.size)
  have Hm := hid_of ((Hm.out.below hB).mono hB.size)
  have Ha := hid_of ((Ha.out.below hB).mono hB.size)
  have Hb := hid_of ((Hb.out.below hB).mono hB.size)
  have Ht := hid_of ((Ht.out.below hB).mono hB.size)
  have Hn := hid_of ((Hn.out.below hB).mono hB.size)
  have Hc := hid_of ((Hc.out.below hB).mono hB.size)
  have Hd := hid_of ((Hd.out.below hB).mono hB.size)
  have Hu := hid_of ((Hu.out.below hB).mono hB.size)
  have Hx := hid_of ((Hx.out.below hB).mono hB.size)
  have Hy := hid_of ((Hy.out.below hB).mono hB.size)
  have BB := hid_of (BB.out.trans (hB.mono BB.out.size))
  clear hB
  go_wp2_with fail
  refine (valueOf_any _ X hX L0 _ _ H0.out).mono ?_
  rintro e w_v ⟨rfl, hw⟩
  subst hw
  rw [PV.out]
  go_wp2_with fail
  refine (same_any _ _ _ _ _ _ Hm.out Hn.out).mono ?_
  rintro e w_12 ⟨rfl, hB⟩
  rw [decide_eq_true rfl]
  have H0 := hid_of ((H0.out.below hB).mono hB.size)
  have H1 := hid_of ((H1.out.below hB).mono hB.size)
  have H3 := hid_of ((H3.out.below hB).mono hB.size)
  have H4 := hid_of ((H4.out.below hB).mono hB.size)
  have Hm := hid_of ((Hm.out.below hB).mono hB.size)
  have Ha := hid_of ((Ha.out.below hB).mono hB.size)
  have Hb := hid_of ((Hb.out.below hB).mono hB.size)
  have Ht := hid_of ((Ht.out.below hB).mono hB.size)
  have Hn := hid_of ((Hn.out.below hB).mono hB.size)
  have Hc := hid_of ((Hc.out.below hB).mono hB.size)
  have Hd := hid_of ((Hd.out.below hB).mono hB.size)
  have Hu := hid_of ((Hu.out.below hB).mono hB.size)
  have Hx := hid_of ((Hx.out.below hB).mono hB.size)
  have Hy := hid_of ((Hy.out.below hB).mono hB.size)
  have BB := hid_of (BB.out.trans (hB.mono BB.out.size))
  clear hB
  go_wp2_with fail
  refine (same_any _ _ _ _ _ _ Ha.out Hc.out).mono ?_
  rintro e w_13 ⟨rfl, hB⟩
  rw [decide_eq_true rfl]
  have H0 := hid_of ((H0.out.below hB).mono hB.size)
  have H1 := hid_of ((H1.out.below hB).mono hB.size)
  have H3 := hid_of ((H3.out.below hB).mono hB.size)
  have H4 := hid_of ((H4.out.below hB).mono hB.size)
  have Hm := hid_of ((Hm.out.below hB).mono hB.size)
  have Ha := hid_of ((Ha.out.below hB).mono hB.size)
  have Hb := hid_of ((Hb.out.below hB).mono hB.size)
  have Ht := hid_of ((Ht.out.below hB).mono hB.size)
  have Hn := hid_of ((Hn.out.below hB).mono hB.size)
  have Hc := hid_of ((Hc.out.below hB).mono hB.size)
  have Hd := hid_of ((Hd.out.below hB).mono hB.size)
  have Hu := hid_of ((Hu.out.below hB).mono hB.size)
  have Hx := hid_of ((Hx.out.below hB).mono hB.size)
  have Hy := hid_of ((Hy.out.below hB).mono hB.size)
  have BB := hid_of (BB.out.trans (hB.mono BB.out.size))
  clear hB
  go_wp2_with fail
  refine (same_any _ _ _ _ _ _ Hb.out Hd.out).mono ?_
  rintro e w_14 ⟨rfl, hB⟩
  rw [decide_eq_true rfl]
  have H0 := hid_of ((H0.out.below hB).mono hB.size)
  have H1 := hid_of ((H1.out.below hB).mono hB.size)
  have H3 := hid_of ((H3.out.below hB).mono hB.size)
  have H4 := hid_of ((H4.out.below hB).mono hB.size)
  have Hm := hid_of ((Hm.out.below hB).mono hB.size)
  have Ha := hid_of ((Ha.out.below hB).mono hB.size)
  have Hb := hid_of ((Hb.out.below hB).mono hB.size)
  have Ht := hid_of ((Ht.out.below hB).mono hB.size)
  have Hn := hid_of ((Hn.out.below hB).mono hB.size)
  have Hc := hid_of ((Hc.out.below hB).mono hB.size)
  have Hd := hid_of ((Hd.out.below hB).mono hB.size)
  have Hu := hid_of ((Hu.out.below hB).mono hB.size)
  have Hx := hid_of ((Hx.out.below hB).mono hB.size)
  have Hy := hid_of ((Hy.out.below hB).mono hB.size)
  have BB := hid_of (BB.out.trans (hB.mono BB.out.size))
  clear hB
  go_wp2_with fail
  refine (same_any _ _ _ _ _ _ Ht.out Hu.out).mono ?_
  rintro e w_15 ⟨rfl, hB⟩
  rw [decide_eq_true rfl]
  have H0 := hid_of ((H0.out.below hB).mono hB.size)
  have H1 := hid_of ((H1.out.below hB).mono hB.size)
  have H3 := hid_of ((H3.out.below hB).mono hB.size)
  have H4 := hid_of ((H4.out.below hB).mono hB.size)
  have Hm := hid_of ((Hm.out.below hB).mono hB.size)
  have Ha := hid_of ((Ha.out.below hB).mono hB.size)
  have Hb := hid_of ((Hb.out.below hB).mono hB.size)
  have Ht := hid_of ((Ht.out.below hB).mono hB.size)
  have Hn := hid_of ((Hn.out.below hB).mono hB.size)
  have Hc := hid_of ((Hc.out.below hB).mono hB.size)
  have Hd := hid_of ((Hd.out.below hB).mono hB.size)
  have Hu := hid_of ((Hu.out.below hB).mono hB.size)
  have Hx := hid_of ((Hx.out.below hB).mono hB.size)
  have Hy := hid_of ((Hy.out.below hB).mono hB.size)
  have BB := hid_of (BB.out.trans (hB.mono BB.out.size))
  clear hB
  go_wp2_with fail
  go_ret
  exact ⟨rfl, BB.out⟩
theorem walk (v0 : Value) (L0 : List Nat) (v1 : Value) (L1 : List Nat) (a2 : Int) (v3 : Value) (L3 : List Nat) (v4 : Value) (L4 : List Nat) (w : World) (w0 : Bs w.heap.size w v0 L0) (w1 : Bs w.heap.size w v1 L1) (w2 : (Lit.int .u8 a2).wf = true) (w3 : Bs w.heap.size w v3 L3) (w4 : Bs w.heap.size w v4 L4) :
    Calls Try.prog 3 #[v0, v1, .int .u8 a2, v3, v4] w fun e w' => e = .returned (.bool true) ∧ Below w.heap.size w w' := by
  have hb := bounds_u8 w2
  obtain ⟨X, rfl⟩ := Int.eq_ofNat_of_zero_le hb.1
  exact walk_nat v0 L0 v1 L1 X v3 L3 v4 L4 (by omega) w w0 w1 w3 w4

/-! ### THE ROW's STEP: WRITTEN OUT: LEAVE IT -/
set_option maxRecDepth 100000 in
theorem lifted (os : Os) (started : os.Started) (H : Type) (enc : TypeId × Value → H) :
    ReturnsInHanded {} Try.checked os 3 .any (Rows.polyTellsSpec.pre6 enc Try.prog Try.f3 Rows.polyTellsRow.domain false) (Rows.polyTellsSpec.post enc Try.prog Try.f3 false true false false) := by
  refine returnsInHanded_of_change_sized (C := Try.checked) own started (by kernel_rfl) Try.func3
    (ChangeSpec.witness6 (enc := enc) (C := Try.checked) false ⟨#[], #[.slice none 0 0, .slice none 0 0, .int .u8 0, .slice none 0 0, .slice none 0 0], []⟩ 8 (by kernel_rfl) (by kernel_rfl) (by kernel_rfl) (by kernel_rfl)) ?_
  intro W base args ds gs before hval0 hW hcnd hsz0 _
  have hsz : (DataW.weightsEach Try.prog (Try.f3.params.toList ++ Rows.polyTellsSpec.plain.varTypes Try.prog) (ds ++ gs)).all (· ≤ reachBytes) = true := hsz0
  clear hsz0
  have hval : ∀ (j : Nat) t v, Try.f3.params[j]? = some t → args[j]? = some v → Value.okWide Try.prog W .any base t v := hval0
  have hW' := hW
  obtain ⟨p, q, hA0, hV, rfl, hfz, hnd⟩ := hW
  have hA : DataW.TrodAll enc Try.prog W 0 (fun _ => true) true Try.f3.params.toList args.toList ds p := hA0
  rw [Try.params3] at hA hval hsz
  obtain ⟨v0, vs0, d0, ds0, p0, q0, hargs, rfl, rfl, h0, r0⟩ := trodAll_cons hA
  obtain ⟨v1, vs1, d1, ds1, p1, q1, rfl, rfl, rfl, h1, r1⟩ := trodAll_cons r0
  obtain ⟨v2, vs2, d2, ds2, p2, q2, rfl, rfl, rfl, h2, r2⟩ := trodAll_cons r1
  obtain ⟨v3, vs3, d3, ds3, p3, q3, rfl, rfl, rfl, h3, r3⟩ := trodAll_cons r2
  obtain ⟨v4, vs4, d4, ds4, p4, q4, rfl, rfl, rfl, h4, r4⟩ := trodAll_cons r3
  obtain ⟨rfl, rfl, rfl⟩ := trodAll_nil r4
  obtain rfl : args = #[v0, v1, v2, v3, v4] := by cases args; simp_all
  obtain ⟨rfl, rfl⟩ := trodVars_none hV
  obtain ⟨a0, len0, cap0, rfl⟩ := okWide_slice Try.underlying22 (hval 0 22 v0 rfl rfl)
  have k0 := h0
  have lt0 : ∀ x ∈ p0, x.block < W.heap.size := by obtain ⟨m, hm⟩ := k0; exact DataW.trod_lt m _ _ _ hm
  obtain ⟨L0, w0⟩ : ∃ L, Bs W.heap.size W (.slice a0 len0 cap0) L := by
    obtain ⟨fuel, hf⟩ := h0
    rcases open_ints Try.underlying22 Try.underlying5 (by kernel_rfl) hf with ⟨hcs, _⟩ | ⟨x, l, c, zs, hcs, _, hl, hm, hz, hx, hcell, hwz⟩
    · simp [Value.cells] at hcs
      obtain ⟨rfl, rfl, rfl⟩ := hcs
      exact ⟨[], Bs.nil _ _⟩
    · simp [Value.cells] at hcs
      obtain ⟨rfl, rfl, rfl⟩ := hcs
      have e0 := (Prod.mk.inj hx).1
      have hb := sized_slice hsz (j := 0) (t := 22) (e := 5) rfl (congrArg some e0) Try.underlying22
      rw [show Try.prog.bytesOf 5 = 1 by kernel_rfl] at hb
      simp only [lits, List.length_map, List.length_take, List.length_drop, reachBytes] at hb
      simp only [if_true] at hz
      obtain ⟨L, hL, _⟩ := isRow_bs (.inr ⟨_, rfl, hl, hm, hz, hcell, hwz⟩) (by omega)
      exact ⟨L, hL⟩
  obtain ⟨a1, len1, cap1, rfl⟩ := okWide_slice Try.underlying22 (hval 1 22 v1 rfl rfl)
  have k1 := h1
  have lt1 : ∀ x ∈ p1, x.block < W.heap.size := by obtain ⟨m, hm⟩ := k1; exact DataW.trod_lt m _ _ _ hm
  obtain ⟨L1, w1⟩ : ∃ L, Bs W.heap.size W (.slice a1 len1 cap1) L := by
    obtain ⟨fuel, hf⟩ := h1
    rcases open_ints Try.underlying22 Try.underlying5 (by kernel_rfl) hf with ⟨hcs, _⟩ | ⟨x, l, c, zs, hcs, _, hl, hm, hz, hx, hcell, hwz⟩
    · simp [Value.cells] at hcs
      obtain ⟨rfl, rfl, rfl⟩ := hcs
      exact ⟨[], Bs.nil _ _⟩
    · simp [Value.cells] at hcs
      obtain ⟨rfl, rfl, rfl⟩ := hcs
      have e0 := (Prod.mk.inj hx).1
      have hb := sized_slice hsz (j := 1) (t := 22) (e := 5) rfl (congrArg some e0) Try.underlying22
      rw [show Try.prog.bytesOf 5 = 1 by kernel_rfl] at hb
      simp only [lits, List.length_map, List.length_take, List.length_drop, reachBytes] at hb
      simp only [if_true] at hz
      obtain ⟨L, hL, _⟩ := isRow_bs (.inr ⟨_, rfl, hl, hm, hz, hcell, hwz⟩) (by omega)
      exact ⟨L, hL⟩
  obtain ⟨a2, rfl, rfl, rfl, w2⟩ := open_int Try.underlying5 (hval 2 5 v2 rfl rfl) h2
  obtain ⟨a3, len3, cap3, rfl⟩ := okWide_slice Try.underlying22 (hval 3 22 v3 rfl rfl)
  have k3 := h3
  have lt3 : ∀ x ∈ p3, x.block < W.heap.size := by obtain ⟨m, hm⟩ := k3; exact DataW.trod_lt m _ _ _ hm
  obtain ⟨L3, w3⟩ : ∃ L, Bs W.heap.size W (.slice a3 len3 cap3) L := by
    obtain ⟨fuel, hf⟩ := h3
    rcases open_ints Try.underlying22 Try.underlying5 (by kernel_rfl) hf with ⟨hcs, _⟩ | ⟨x, l, c, zs, hcs, _, hl, hm, hz, hx, hcell, hwz⟩
    · simp [Value.cells] at hcs
      obtain ⟨rfl, rfl, rfl⟩ := hcs
      exact ⟨[], Bs.nil _ _⟩
    · simp [Value.cells] at hcs
      obtain ⟨rfl, rfl, rfl⟩ := hcs
      have e0 := (Prod.mk.inj hx).1
      have hb := sized_slice hsz (j := 3) (t := 22) (e := 5) rfl (congrArg some e0) Try.underlying22
      rw [show Try.prog.bytesOf 5 = 1 by kernel_rfl] at hb
      simp only [lits, List.length_map, List.length_take, List.length_drop, reachBytes] at hb
      simp only [if_true] at hz
      obtain ⟨L, hL, _⟩ := isRow_bs (.inr ⟨_, rfl, hl, hm, hz, hcell, hwz⟩) (by omega)
      exact ⟨L, hL⟩
  obtain ⟨a4, len4, cap4, rfl⟩ := okWide_slice Try.underlying22 (hval 4 22 v4 rfl rfl)
  have k4 := h4
  have lt4 : ∀ x ∈ p4, x.block < W.heap.size := by obtain ⟨m, hm⟩ := k4; exact DataW.trod_lt m _ _ _ hm
  obtain ⟨L4, w4⟩ : ∃ L, Bs W.heap.size W (.slice a4 len4 cap4) L := by
    obtain ⟨fuel, hf⟩ := h4
    rcases open_ints Try.underlying22 Try.underlying5 (by kernel_rfl) hf with ⟨hcs, _⟩ | ⟨x, l, c, zs, hcs, _, hl, hm, hz, hx, hcell, hwz⟩
    · simp [Value.cells] at hcs
      obtain ⟨rfl, rfl, rfl⟩ := hcs
      exact ⟨[], Bs.nil _ _⟩
    · simp [Value.cells] at hcs
      obtain ⟨rfl, rfl, rfl⟩ := hcs
      have e0 := (Prod.mk.inj hx).1
      have hb := sized_slice hsz (j := 4) (t := 22) (e := 5) rfl (congrArg some e0) Try.underlying22
      rw [show Try.prog.bytesOf 5 = 1 by kernel_rfl] at hb
      simp only [lits, List.length_map, List.length_take, List.length_drop, reachBytes] at hb
      simp only [if_true] at hz
      obtain ⟨L, hL, _⟩ := isRow_bs (.inr ⟨_, rfl, hl, hm, hz, hcell, hwz⟩) (by omega)
      exact ⟨L, hL⟩
  clear hA0 hval0
  refine (walk _ L0 _ L1 a2 _ L3 _ L4 W w0 w1 w2 w3 w4).mono fun e W' ⟨he, bel⟩ => ?_
  subst he
  exact ⟨_, rfl, _, _, _, [], _, [], hW', trodAll_mk1 (shut_bool Try.underlying4 _), (trodAll_cons_mk (Below.trod laidOut (by kernel_rfl) (of_decide_eq_true (by kernel_rfl)) k0 bel lt0) (trodAll_cons_mk (Below.trod laidOut (by kernel_rfl) (of_decide_eq_true (by kernel_rfl)) k1 bel lt1) (trodAll_cons_mk (shut_int Try.underlying5 w2) (trodAll_cons_mk (Below.trod laidOut (by kernel_rfl) (of_decide_eq_true (by kernel_rfl)) k3 bel lt3) (trodAll_cons_mk (Below.trod laidOut (by kernel_rfl) (of_decide_eq_true (by kernel_rfl)) k4 bel lt4) trodAll_mk0))))), rfl, bel.frame _, fun h => by cases h⟩

theorem over : Rows.polyTellsRow.holds Try.pinned (OpenSpec.ofChange Rows.polyTellsSpec) :=
  OpenClaim.holds_of_wide 3 Try.f3 rfl rfl rfl rfl rfl rfl rfl ⟨rfl, rfl, rfl, rfl, rfl⟩ rfl rfl rfl rfl rfl (by kernel_rfl) Try.func3 (by kernel_rfl)
    (of_decide_eq_true (by kernel_rfl)) (by unfold Func.isWrapper; first | (rw [if_pos (by decide +kernel)]; kernel_rfl) | (rw [if_neg (by decide +kernel)]; exact ⟨rfl, rfl⟩))
    (fun os started H enc _ => lifted os started H enc)

/-- ████ THE STATEMENT ████ -/
theorem proved : Rows.PolyTellsSaid := over
#print axioms proved
end Go.Proofs.Ytlccdceeppfleaa.polyTells
