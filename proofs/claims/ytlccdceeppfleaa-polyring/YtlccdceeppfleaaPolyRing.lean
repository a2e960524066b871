/- B1 (PolyRing): products come in whichever order, however put together, spread over sums; a product is one factor shorter than both together, and 0 only of a 0: the walk of the law (made by mkring.py) over mul_all, plusOf_any, trim_any, same_any. -/
import Derived.Test.YtlccdceeppfleaaRows
import Derived.Test.YtlccdceeppfleaaCo
import Derived.WalkKit
import Derived.ProofKit
import Derived.OpenShut
import Derived.ShutString
import Derived.ChangeOld
import Derived.Below
import Derived.SizedLaws
namespace Go.Proofs.Ytlccdceeppfleaa.polyRing
open Go.ChangeShapes Go.WideShapes Go.ChangeAt Go.RowKit
open Go.ChangeMaps (open_string shut_string)
set_option linter.unusedVariables false

theorem own : ownKnob Try.prog.godebug = none := by kernel_rfl
theorem laidOut : laidOutB Try.prog = true := by kernel_rfl

/-- what Mul answers beside its product -/
def mer (P Q : List Nat) : Nat := if 64 < P.length ∨ 64 < Q.length then 2 else 0
/-- what Mul gives -/
def mpm (P Q : List Nat) : List Nat := if 64 < P.length ∨ 64 < Q.length then [] else pm P Q
theorem mul_all (pv qv : Value) (P Q : List Nat) (w : World) (hP : Bs w.heap.size w pv P) (hQ : Bs w.heap.size w qv Q) (er : Nat) (her : mer P Q = er) :
    Calls Try.prog 9 #[pv, qv] w fun e w' => ∃ v, e = .returned (.tuple #[v, .int .i64 (er : Nat)]) ∧ Ow w.heap.size w' v (mpm P Q) ∧ Below w.heap.size w w' := by
  unfold mpm
  unfold mer at her
  subst her
  by_cases h : 64 < P.length ∨ 64 < Q.length
  · rw [if_pos h, if_pos h]
    exact (mul_long pv qv P Q w hP hQ h).mono fun e w' ⟨h1, h2⟩ => ⟨_, h1, ⟨World.ownsRow_nil _ _ _ _, by simp, by simp⟩, h2⟩
  · rw [if_neg h, if_neg h]
    exact mulp_any pv qv P Q w hP hQ (by omega) (by omega)
theorem mer_comm (P Q : List Nat) : mer P Q = mer Q P := by simp only [mer, Or.comm]
theorem mpm_comm {P Q : List Nat} (hP : Byt P) (hQ : Byt Q) : mpm P Q = mpm Q P := by
  unfold mpm
  rw [pm_comm hP hQ]
  simp only [Or.comm]
theorem mer_zero {P Q : List Nat} (h : mer P Q = 0) : mpm P Q = pm P Q := by
  unfold mer at h
  unfold mpm
  by_cases c : 64 < P.length ∨ 64 < Q.length
  · rw [if_pos c] at h; cases h
  · rw [if_neg c]
theorem mer_le {P Q : List Nat} (h : mer P Q = 0) : P.length ≤ 64 ∧ Q.length ≤ 64 := by
  unfold mer at h
  by_cases c : 64 < P.length ∨ 64 < Q.length
  · rw [if_pos c] at h; cases h
  · omega
theorem ne_t {n : Nat} (h : n ≠ 0) : ((n : Int) != 0) = true := by rw [bne_iff_ne]; omega
set_option maxRecDepth 100000 in
set_option maxHeartbeats 8000000 in
theorem walk (v0 : Value) (L0 : List Nat) (v1 : Value) (L1 : List Nat) (v2 : Value) (L2 : List Nat) (w : World) (w0 : Bs w.heap.size w v0 L0) (w1 : Bs w.heap.size w v1 L1) (w2 : Bs w.heap.size w v2 L2) :
    Calls Try.prog 5 #[v0, v1, v2] w fun e w' => e = .returned (.bool true) ∧ Below w.heap.size w w' := by
  have H0 := hid_of w0
  have H1 := hid_of w1
  have H2 := hid_of w2
  have Y0 := hid_of w0.1
  have Y1 := hid_of w1.1
  have Y2 := hid_of w2.1
  clear w0 w1 w2
  obtain ⟨e1, he1⟩ : ∃ e, mer L0 L1 = e := ⟨_, rfl⟩
  obtain ⟨e3, he3⟩ : ∃ e, mer L0 L2 = e := ⟨_, rfl⟩
  obtain ⟨e4, he4⟩ : ∃ e, mer L0 (trim (plus L1 L2)) = e := ⟨_, rfl⟩
  have E1 := hid_of he1
  have E3 := hid_of he3
  have E4 := hid_of he4
  clear he1 he3 he4
  obtain ⟨e5, he5⟩ : ∃ e, mer (mpm L0 L1) L2 = e := ⟨_, rfl⟩
  obtain ⟨e6, he6⟩ : ∃ e, mer L1 L2 = e := ⟨_, rfl⟩
  obtain ⟨e7, he7⟩ : ∃ e, mer L0 (mpm L1 L2) = e := ⟨_, rfl⟩
  have E5 := hid_of he5
  have E6 := hid_of he6
  have E7 := hid_of he7
  obtain ⟨m, hm'⟩ : ∃ m, (trim L0).length = m := ⟨_, rfl⟩
  obtain ⟨n, hn'⟩ : ∃ m, (trim L1).length = m := ⟨_, rfl⟩
  obtain ⟨q, hq'⟩ : ∃ m, (mpm L0 L1).length = m := ⟨_, rfl⟩
  have hm := hid_of hm'
  have hn := hid_of hn'
  have hq := hid_of hq'
  clear he5 he6 he7 hm' hn' hq'
  go_enter Try.func5, Try.ntmps5
  go_wp2_with fail
  refine (begun_any _).mono ?_
  rintro e w_1 ⟨rfl, hB⟩
  have H0 := hid_of ((H0.out.below hB).mono hB.size)
  have H1 := hid_of ((H1.out.below hB).mono hB.size)
  have H2 := hid_of ((H2.out.below hB).mono hB.size)
  have BB := hid_of hB
  clear hB
  go_wp2_with fail
  refine (mul_all _ _ L0 L1 _ H0.out H1.out e1 E1.out).mono ?_
  rintro e w_2 ⟨vpq, rfl, hO, hB⟩
  obtain ⟨avpq, cvpq, hsh⟩ := hO.shape
  rw [hq.out] at hsh
  subst hsh
  have nw := hid_of hO.bs
  clear hO
  have H0 := hid_of ((H0.out.below hB).mono hB.size)
  have H1 := hid_of ((H1.out.below hB).mono hB.size)
  have H2 := hid_of ((H2.out.below hB).mono hB.size)
  have BB := hid_of (BB.out.trans (hB.mono BB.out.size))
  clear hB
  have Hpq := nw
  clear nw
  go_wp2_with fail
  refine (mul_all _ _ L1 L0 _ H1.out H0.out e1 (by rw [mer_comm]; exact E1.out)).mono ?_
  rintro e w_3 ⟨vqp, rfl, hO, hB⟩
  rw [mpm_comm Y1.out Y0.out] at hO
  have nw := hid_of hO.bs
  clear hO
  have H0 := hid_of ((H0.out.below hB).mono hB.size)
  have H1 := hid_of ((H1.out.below hB).mono hB.size)
  have H2 := hid_of ((H2.out.below hB).mono hB.size)
  have Hpq := hid_of ((Hpq.out.below hB).mono hB.size)
  have BB := hid_of (BB.out.trans (hB.mono BB.out.size))
  clear hB
  have Hqp := nw
  clear nw
  go_wp2_with fail
  refine (mul_all _ _ L0 L2 _ H0.out H2.out e3 E3.out).mono ?_
  rintro e w_4 ⟨vpr, rfl, hO, hB⟩
  have nw := hid_of hO.bs
  clear hO
  have H0 := hid_of ((H0.out.below hB).mono hB.size)
  have H1 := hid_of ((H1.out.below hB).mono hB.size)
  have H2 := hid_of ((H2.out.below hB).mono hB.size)
  have Hpq := hid_of ((Hpq.out.below hB).mono hB.size)
  have Hqp := hid_of ((Hqp.out.below hB).mono hB.size)
  have BB := hid_of (BB.out.trans (hB.mono BB.out.size))
  clear hB
  have Hpr := nw
  clear nw
  go_wp2_with fail
  refine (plusOf_any _ _ L1 L2 _ H1.out H2.out).mono ?_
  rintro e w_5 ⟨vt, rfl, hO, hB⟩
  have nw := hid_of hO.bs
  clear hO
  have H0 := hid_of ((H0.out.below hB).mono hB.size)
  have H1 := hid_of ((H1.out.below hB).mono hB.size)
  have H2 := hid_of ((H2.out.below hB).mono hB.size)
  have Hpq := hid_of ((Hpq.out.below hB).mono hB.size)
  have Hqp := hid_of ((Hqp.out.below hB).mono hB.size)
  have Hpr := hid_of ((Hpr.out.below hB).mono hB.size)
  have BB := hid_of (BB.out.trans (hB.mono BB.out.size))
  clear hB
  have Ht := nw
  clear nw
  go_wp2_with fail
  refine (mul_all _ _ L0 (trim (plus L1 L2)) _ H0.out Ht.out e4 E4.out).mono ?_
  rintro e w_6 ⟨vs, rfl, hO, hB⟩
  have nw := hid_of hO.bs
  clear hO
  have H0 := hid_of ((H0.out.below hB).mono hB.size)
  have H1 := hid_of ((H1.out.below hB).mono hB.size)
  have H2 := hid_of ((H2.out.below hB).mono hB.size)
  have Hpq := hid_of ((Hpq.out.below hB).mono hB.size)
  have Hqp := hid_of ((Hqp.out.below hB).mono hB.size)
  have Hpr := hid_of ((Hpr.out.below hB).mono hB.size)
  have Ht := hid_of ((Ht.out.below hB).mono hB.size)
  have BB := hid_of (BB.out.trans (hB.mono BB.out.size))
  clear hB
  have Hs := nw
  clear nw
  go_wp2_with fail
  refine (same_any _ _ _ _ _ _ Hpq.out Hqp.out).mono ?_
  rintro e w_7 ⟨rfl, hB⟩
  rw [decide_eq_true rfl]
  have H0 := hid_of ((H0.out.below hB).mono hB.size)
  have H1 := hid_of ((H1.out.below hB).mono hB.size)
  have H2 := hid_of ((H2.out.below hB).mono hB.size)
  have Hpq := hid_of ((Hpq.out.below hB).mono hB.size)
  have Hqp := hid_of ((Hqp.out.below hB).mono hB.size)
  have Hpr := hid_of ((Hpr.out.below hB).mono hB.size)
  have Ht := hid_of ((Ht.out.below hB).mono hB.size)
  have Hs := hid_of ((Hs.out.below hB).mono hB.size)
  have BB := hid_of (BB.out.trans (hB.mono BB.out.size))
  clear hB
  by_cases c1 : e1 = 0
  rotate_left
  · have ze1 := ne_t c1
    go_wp2_with fail
    go_ret
    exact ⟨rfl, BB.out⟩
  have Ce1 := hid_of c1
  have ze1 : ((e1 : Int) != 0) = false := by rw [Ce1.out]; rfl
  clear c1
  by_cases c3 : e3 = 0
  rotate_left
  · have ze3 := ne_t c3
    go_wp2_with fail
    go_ret
    exact ⟨rfl, BB.out⟩
  have Ce3 := hid_of c3
  have ze3 : ((e3 : Int) != 0) = false := by rw [Ce3.out]; rfl
  clear c3
  by_cases c4 : e4 = 0
  rotate_left
  · have ze4 := ne_t c4
    go_wp2_with fail
    go_ret
    exact ⟨rfl, BB.out⟩
  have Ce4 := hid_of c4
  have ze4 : ((e4 : Int) != 0) = false := by rw [Ce4.out]; rfl
  clear c4
  have M1 := hid_of (mer_zero (E1.out.trans Ce1.out))
  have M3 := hid_of (mer_zero (E3.out.trans Ce3.out))
  have M4 := hid_of (mer_zero (E4.out.trans Ce4.out))
  have hml := pm_length Y0.out Y1.out
  rw [← M1.out, hm.out, hn.out, hq.out] at hml
  have l64 := mer_le (E1.out.trans Ce1.out)
  have hm64 : m ≤ 64 := by have := trim_len L0; rw [hm.out] at this; omega
  have hn64 : n ≤ 64 := by have := trim_len L1; rw [hn.out] at this; omega
  have hw1 : IntKind.i64.wrap ((m : Int) + (n : Int)) = (m : Int) + (n : Int) := by rw [IntKind.wrap_i64]; omega
  have hw2 : IntKind.i64.wrap ((m : Int) + (n : Int) - 1) = (m : Int) + (n : Int) - 1 := by rw [IntKind.wrap_i64]; omega
  by_cases m0 : m = 0
  · have qm : ((q : Int) != 0) = false := by rw [if_pos (.inl m0)] at hml; rw [hml]; rfl
    have zm : ((m : Int) == 0) = true := by rw [m0]; rfl
    clear hml m0
    go_wp2_with fail
    refine (trim_any _ L0 _ H0.out).mono ?_
    rintro e w_8 ⟨va, rfl, hO, hB⟩
    obtain ⟨ava, cva, hsh⟩ := hO.shape
    rw [hm.out] at hsh
    subst hsh
    clear hO
    have H0 := hid_of ((H0.out.below hB).mono hB.size)
    have H1 := hid_of ((H1.out.below hB).mono hB.size)
    have H2 := hid_of ((H2.out.below hB).mono hB.size)
    have Hpq := hid_of ((Hpq.out.below hB).mono hB.size)
    have Hqp := hid_of ((Hqp.out.below hB).mono hB.size)
    have Hpr := hid_of ((Hpr.out.below hB).mono hB.size)
    have Ht := hid_of ((Ht.out.below hB).mono hB.size)
    have Hs := hid_of ((Hs.out.below hB).mono hB.size)
    have BB := hid_of (BB.out.trans (hB.mono BB.out.size))
    clear hB
    go_wp2_with fail
    refine (trim_any _ L1 _ H1.out).mono ?_
    rintro e w_9 ⟨vb, rfl, hO, hB⟩
    obtain ⟨avb, cvb, hsh⟩ := hO.shape
    rw [hn.out] at hsh
    subst hsh
    clear hO
    have H0 := hid_of ((H0.out.below hB).mono hB.size)
    have H1 := hid_of ((H1.out.below hB).mono hB.size)
    have H2 := hid_of ((H2.out.below hB).mono hB.size)
    have Hpq := hid_of ((Hpq.out.below hB).mono hB.size)
    have Hqp := hid_of ((Hqp.out.below hB).mono hB.size)
    have Hpr := hid_of ((Hpr.out.below hB).mono hB.size)
    have Ht := hid_of ((Ht.out.below hB).mono hB.size)
    have Hs := hid_of ((Hs.out.below hB).mono hB.size)
    have BB := hid_of (BB.out.trans (hB.mono BB.out.size))
    clear hB
    go_wp2_with fail
    refine (plusOf_any _ _ _ _ _ Hpq.out Hpr.out).mono ?_
    rintro e w_10 ⟨vu, rfl, hO, hB⟩
    have nw := hid_of hO.bs
    clear hO
    have H0 := hid_of ((H0.out.below hB).mono hB.size)
    have H1 := hid_of ((H1.out.below hB).mono hB.size)
    have H2 := hid_of ((H2.out.below hB).mono hB.size)
    have Hpq := hid_of ((Hpq.out.below hB).mono hB.size)
    have Hqp := hid_of ((Hqp.out.below hB).mono hB.size)
    have Hpr := hid_of ((Hpr.out.below hB).mono hB.size)
    have Ht := hid_of ((Ht.out.below hB).mono hB.size)
    have Hs := hid_of ((Hs.out.below hB).mono hB.size)
    have BB := hid_of (BB.out.trans (hB.mono BB.out.size))
    clear hB
    have Hu := nw
    clear nw
    go_wp2_with fail
    refine (same_any _ _ _ _ _ _ Hs.out Hu.out).mono ?_
    rintro e w_11 ⟨rfl, hB⟩
    rw [decide_eq_true (by rw [M1.out, M3.out, M4.out]; exact pm_plus Y0.out Y1.out Y2.out)]
    have H0 := hid_of ((H0.out.below hB).mono hB.size)
    have H1 := hid_of ((H1.out.below hB).mono hB.size)
    have H2 := hid_of ((H2.out.below hB).mono hB.size)
    have Hpq := hid_of ((Hpq.out.below hB).mono hB.size)
    have Hqp := hid_of ((Hqp.out.below hB).mono hB.size)
    have Hpr := hid_of ((Hpr.out.below hB).mono hB.size)
    have Ht := hid_of ((Ht.out.below hB).mono hB.size)
    have Hs := hid_of ((Hs.out.below hB).mono hB.size)
    have Hu := hid_of ((Hu.out.below hB).mono hB.size)
    have BB := hid_of (BB.out.trans (hB.mono BB.out.size))
    clear hB
    go_wp2_with fail
    refine (mul_all _ _ _ L2 _ Hpq.out H2.out e5 E5.out).mono ?_
    rintro e w_12 ⟨vx, rfl, hO, hB⟩
    have nw := hid_of hO.bs
    clear hO
    have H0 := hid_of ((H0.out.below hB).mono hB.size)
    have H1 := hid_of ((H1.out.below hB).mono hB.size)
    have H2 := hid_of ((H2.out.below hB).mono hB.size)
    have Hpq := hid_of ((Hpq.out.below hB).mono hB.size)
    have Hqp := hid_of ((Hqp.out.below hB).mono hB.size)
    have Hpr := hid_of ((Hpr.out.below hB).mono hB.size)
    have Ht := hid_of ((Ht.out.below hB).mono hB.size)
    have Hs := hid_of ((Hs.out.below hB).mono hB.size)
    have Hu := hid_of ((Hu.out.below hB).mono hB.size)
    have BB := hid_of (BB.out.trans (hB.mono BB.out.size))
    clear hB
    have Hx := nw
    clear nw
    go_wp2_with fail
    refine (mul_all _ _ L1 L2 _ H1.out H2.out e6 E6.out).mono ?_
    rintro e w_13 ⟨vqr, rfl, hO, hB⟩
    have nw := hid_of hO.bs
    clear hO
    have H0 := hid_of ((H0.out.below hB).mono hB.size)
    have H1 := hid_of ((H1.out.below hB).mono hB.size)
    have H2 := hid_of ((H2.out.below hB).mono hB.size)
    have Hpq := hid_of ((Hpq.out.below hB).mono hB.size)
    have Hqp := hid_of ((Hqp.out.below hB).mono hB.size)
    have Hpr := hid_of ((Hpr.out.below hB).mono hB.size)
    have Ht := hid_of ((Ht.out.below hB).mono hB.size)
    have Hs := hid_of ((Hs.out.below hB).mono hB.size)
    have Hu := hid_of ((Hu.out.below hB).mono hB.size)
    have Hx := hid_of ((Hx.out.below hB).mono hB.size)
    have BB := hid_of (BB.out.trans (hB.mono BB.out.size))
    clear hB
    have Hqr := nw
    clear nw
    go_wp2_with fail
    refine (mul_all _ _ L0 _ _ H0.out Hqr.out e7 E7.out).mono ?_
    rintro e w_14 ⟨vy, rfl, hO, hB⟩
    have nw := hid_of hO.bs
    clear hO
    have H0 := hid_of ((H0.out.below hB).mono hB.size)
    have H1 := hid_of ((H1.out.below hB).mono hB.size)
    have H2 := hid_of ((H2.out.below hB).mono hB.size)
    have Hpq := hid_of ((Hpq.out.below hB).mono hB.size)
    have Hqp := hid_of ((Hqp.out.below hB).mono hB.size)
    have Hpr := hid_of ((Hpr.out.below hB).mono hB.size)
    have Ht := hid_of ((Ht.out.below hB).mono hB.size)
    have Hs := hid_of ((Hs.out.below hB).mono hB.size)
    have Hu := hid_of ((Hu.out.below hB).mono hB.size)
    have Hx := hid_of ((Hx.out.below hB).mono hB.size)
    have Hqr := hid_of ((Hqr.out.below hB).mono hB.size)
    have BB := hid_of (BB.out.trans (hB.mono BB.out.size))
    clear hB
    have Hy := nw
    clear nw
    by_cases c5 : e5 = 0
    rotate_left
    · have ze5 := ne_t c5
      go_wp2_with fail
      go_ret
      exact ⟨rfl, BB.out⟩
    have Ce5 := hid_of c5
    have ze5 : ((e5 : Int) != 0) = false := by rw [Ce5.out]; rfl
    clear c5
    by_cases c6 : e6 = 0
    rotate_left
    · have ze6 := ne_t c6
      go_wp2_with fail
      go_ret
      exact ⟨rfl, BB.out⟩
    have Ce6 := hid_of c6
    have ze6 : ((e6 : Int) != 0) = false := by rw [Ce6.out]; rfl
    clear c6
    by_cases c7 : e7 = 0
    rotate_left
    · have ze7 := ne_t c7
      go_wp2_with fail
      go_ret
      exact ⟨rfl, BB.out⟩
    have Ce7 := hid_of c7
    have ze7 : ((e7 : Int) != 0) = false := by rw [Ce7.out]; rfl
    clear c7
    go_wp2_with fail
    refine (same_any _ _ _ _ _ _ Hx.out Hy.out).mono ?_
    rintro e w_15 ⟨rfl, hB⟩
    rw [decide_eq_true (by rw [mer_zero (E5.out.trans Ce5.out), mer_zero (E7.out.trans Ce7.out), M1.out, mer_zero (E6.out.trans Ce6.out)]; exact pm_assoc Y0.out Y1.out Y2.out)]
    have H0 := hid_of ((H0.out.below hB).mono hB.size)
    have H1 := hid_of ((H1.out.below hB).mono hB.size)
    have H2 := hid_of ((H2.out.below hB).mono hB.size)
    have Hpq := hid_of ((Hpq.out.below hB).mono hB.size)
    have Hqp := hid_of ((Hqp.out.below hB).mono hB.size)
    have Hpr := hid_of ((Hpr.out.below hB).mono hB.size)
    have Ht := hid_of ((Ht.out.below hB).mono hB.size)
    have Hs := hid_of ((Hs.out.below hB).mono hB.size)
    have Hu := hid_of ((Hu.out.below hB).mono hB.size)
    have Hx := hid_of ((Hx.out.below hB).mono hB.size)
    have Hqr := hid_of ((Hqr.out.below hB).mono hB.size)
    have Hy := hid_of ((Hy.out.below hB).mono hB.size)
    have BB := hid_of (BB.out.trans (hB.mono BB.out.size))
    clear hB
    go_wp2_with fail
    go_ret
    exact ⟨rfl, BB.out⟩
  have zm : ((m : Int) == 0) = false := by rw [beq_eq_false_iff_ne]; omega
  by_cases n0 : n = 0
  · have qm : ((q : Int) != 0) = false := by rw [if_pos (.inr n0)] at hml; rw [hml]; rfl
    have zn : ((n : Int) == 0) = true := by rw [n0]; rfl
    clear hml n0 m0
    go_wp2_with fail
    refine (trim_any _ L0 _ H0.out).mono ?_
    rintro e w_8 ⟨va, rfl, hO, hB⟩
    obtain ⟨ava, cva, hsh⟩ := hO.shape
    rw [hm.out] at hsh
    subst hsh
    clear hO
    have H0 := hid_of ((H0.out.below hB).mono hB.size)
    have H1 := hid_of ((H1.out.below hB).mono hB.size)
    have H2 := hid_of ((H2.out.below hB).mono hB.size)
    have Hpq := hid_of ((Hpq.out.below hB).mono hB.size)
    have Hqp := hid_of ((Hqp.out.below hB).mono hB.size)
    have Hpr := hid_of ((Hpr.out.below hB).mono hB.size)
    have Ht := hid_of ((Ht.out.below hB).mono hB.size)
    have Hs := hid_of ((Hs.out.below hB).mono hB.size)
    have BB := hid_of (BB.out.trans (hB.mono BB.out.size))
    clear hB
    go_wp2_with fail
    refine (trim_any _ L1 _ H1.out).mono ?_
    rintro e w_9 ⟨vb, rfl, hO, hB⟩
    obtain ⟨avb, cvb, hsh⟩ := hO.shape
    rw [hn.out] at hsh
    subst hsh
    clear hO
    have H0 := hid_of ((H0.out.below hB).mono hB.size)
    have H1 := hid_of ((H1.out.below hB).mono hB.size)
    have H2 := hid_of ((H2.out.below hB).mono hB.size)
    have Hpq := hid_of ((Hpq.out.below hB).mono hB.size)
    have Hqp := hid_of ((Hqp.out.below hB).mono hB.size)
    have Hpr := hid_of ((Hpr.out.below hB).mono hB.size)
    have Ht := hid_of ((Ht.out.below hB).mono hB.size)
    have Hs := hid_of ((Hs.out.below hB).mono hB.size)
    have BB := hid_of (BB.out.trans (hB.mono BB.out.size))
    clear hB
    go_wp2_with fail
    refine (plusOf_any _ _ _ _ _ Hpq.out Hpr.out).mono ?_
    rintro e w_10 ⟨vu, rfl, hO, hB⟩
    have nw := hid_of hO.bs
    clear hO
    have H0 := hid_of ((H0.out.below hB).mono hB.size)
    have H1 := hid_of ((H1.out.below hB).mono hB.size)
    have H2 := hid_of ((H2.out.below hB).mono hB.size)
    have Hpq := hid_of ((Hpq.out.below hB).mono hB.size)
    have Hqp := hid_of ((Hqp.out.below hB).mono hB.size)
    have Hpr := hid_of ((Hpr.out.below hB).mono hB.size)
    have Ht := hid_of ((Ht.out.below hB).mono hB.size)
    have Hs := hid_of ((Hs.out.below hB).mono hB.size)
    have BB := hid_of (BB.out.trans (hB.mono BB.out.size))
    clear hB
    have Hu := nw
    clear nw
    go_wp2_with fail
    refine (same_any _ _ _ _ _ _ Hs.out Hu.out).mono ?_
    rintro e w_11 ⟨rfl, hB⟩
    rw [decide_eq_true (by rw [M1.out, M3.out, M4.out]; exact pm_plus Y0.out Y1.out Y2.out)]
    have H0 := hid_of ((H0.out.below hB).mono hB.size)
    have H1 := hid_of ((H1.out.below hB).mono hB.size)
    have H2 := hid_of ((H2.out.below hB).mono hB.size)
    have Hpq := hid_of ((Hpq.out.below hB).mono hB.size)
    have Hqp := hid_of ((Hqp.out.below hB).mono hB.size)
    have Hpr := hid_of ((Hpr.out.below hB).mono hB.size)
    have Ht := hid_of ((Ht.out.below hB).mono hB.size)
    have Hs := hid_of ((Hs.out.below hB).mono hB.size)
    have Hu := hid_of ((Hu.out.below hB).mono hB.size)
    have BB := hid_of (BB.out.trans (hB.mono BB.out.size))
    clear hB
    go_wp2_with fail
    refine (mul_all _ _ _ L2 _ Hpq.out H2.out e5 E5.out).mono ?_
    rintro e w_12 ⟨vx, rfl, hO, hB⟩
    have nw := hid_of hO.bs
    clear hO
    have H0 := hid_of ((H0.out.below hB).mono hB.size)
    have H1 := hid_of ((H1.out.below hB).mono hB.size)
    have H2 := hid_of ((H2.out.below hB).mono hB.size)
    have Hpq := hid_of ((Hpq.out.below hB).mono hB.size)
    have Hqp := hid_of ((Hqp.out.below hB).mono hB.size)
    have Hpr := hid_of ((Hpr.out.below hB).mono hB.size)
    have Ht := hid_of ((Ht.out.below hB).mono hB.size)
    have Hs := hid_of ((Hs.out.below hB).mono hB.size)
    have Hu := hid_of ((Hu.out.below hB).mono hB.size)
    have BB := hid_of (BB.out.trans (hB.mono BB.out.size))
    clear hB
    have Hx := nw
    clear nw
    go_wp2_with fail
    refine (mul_all _ _ L1 L2 _ H1.out H2.out e6 E6.out).mono ?_
    rintro e w_13 ⟨vqr, rfl, hO, hB⟩
    have nw := hid_of hO.bs
    clear hO
    have H0 := hid_of ((H0.out.below hB).mono hB.size)
    have H1 := hid_of ((H1.out.below hB).mono hB.size)
    have H2 := hid_of ((H2.out.below hB).mono hB.size)
    have Hpq := hid_of ((Hpq.out.below hB).mono hB.size)
    have Hqp := hid_of ((Hqp.out.below hB).mono hB.size)
    have Hpr := hid_of ((Hpr.out.below hB).mono hB.size)
    have Ht := hid_of ((Ht.out.below hB).mono hB.size)
    have Hs := hid_of ((Hs.out.below hB).mono hB.size)
    have Hu := hid_of ((Hu.out.below hB).mono hB.size)
    have Hx := hid_of ((Hx.out.below hB).mono hB.size)
    have BB := hid_of (BB.out.trans (hB.mono BB.out.size))
    clear hB
    have Hqr := nw
    clear nw
    go_wp2_with fail
    refine (mul_all _ _ L0 _ _ H0.out Hqr.out e7 E7.out).mono ?_
    rintro e w_14 ⟨vy, rfl, hO, hB⟩
    have nw := hid_of hO.bs
    clear hO
    have H0 := hid_of ((H0.out.below hB).mono hB.size)
    have H1 := hid_of ((H1.out.below hB).mono hB.size)
    have H2 := hid_of ((H2.out.below hB).mono hB.size)
    have Hpq := hid_of ((Hpq.out.below hB).mono hB.size)
    have Hqp := hid_of ((Hqp.out.below hB).mono hB.size)
    have Hpr := hid_of ((Hpr.out.below hB).mono hB.size)
    have Ht := hid_of ((Ht.out.below hB).mono hB.size)
    have Hs := hid_of ((Hs.out.below hB).mono hB.size)
    have Hu := hid_of ((Hu.out.below hB).mono hB.size)
    have Hx := hid_of ((Hx.out.below hB).mono hB.size)
    have Hqr := hid_of ((Hqr.out.below hB).mono hB.size)
    have BB := hid_of (BB.out.trans (hB.mono BB.out.size))
    clear hB
    have Hy := nw
    clear nw
    by_cases c5 : e5 = 0
    rotate_left
    · have ze5 := ne_t c5
      go_wp2_with fail
      go_ret
      exact ⟨rfl, BB.out⟩
    have Ce5 := hid_of c5
    have ze5 : ((e5 : Int) != 0) = false := by rw [Ce5.out]; rfl
    clear c5
    by_cases c6 : e6 = 0
    rotate_left
    · have ze6 := ne_t c6
      go_wp2_with fail
      go_ret
      exact ⟨rfl, BB.out⟩
    have Ce6 := hid_of c6
    have ze6 : ((e6 : Int) != 0) = false := by rw [Ce6.out]; rfl
    clear c6
    by_cases c7 : e7 = 0
    rotate_left
    · have ze7 := ne_t c7
      go_wp2_with fail
      go_ret
      exact ⟨rfl, BB.out⟩
    have Ce7 := hid_of c7
    have ze7 : ((e7 : Int) != 0) = false := by rw [Ce7.out]; rfl
    clear c7
    go_wp2_with fail
    refine (same_any _ _ _ _ _ _ Hx.out Hy.out).mono ?_
    rintro e w_15 ⟨rfl, hB⟩
    rw [decide_eq_true (by rw [mer_zero (E5.out.trans Ce5.out), mer_zero (E7.out.trans Ce7.out), M1.out, mer_zero (E6.out.trans Ce6.out)]; exact pm_assoc Y0.out Y1.out Y2.out)]
    have H0 := hid_of ((H0.out.below hB).mono hB.size)
    have H1 := hid_of ((H1.out.below hB).mono hB.size)
    have H2 := hid_of ((H2.out.below hB).mono hB.size)
    have Hpq := hid_of ((Hpq.out.below hB).mono hB.size)
    have Hqp := hid_of ((Hqp.out.below hB).mono hB.size)
    have Hpr := hid_of ((Hpr.out.below hB).mono hB.size)
    have Ht := hid_of ((Ht.out.below hB).mono hB.size)
    have Hs := hid_of ((Hs.out.below hB).mono hB.size)
    have Hu := hid_of ((Hu.out.below hB).mono hB.size)
    have Hx := hid_of ((Hx.out.below hB).mono hB.size)
    have Hqr := hid_of ((Hqr.out.below hB).mono hB.size)
    have Hy := hid_of ((Hy.out.below hB).mono hB.size)
    have BB := hid_of (BB.out.trans (hB.mono BB.out.size))
    clear hB
    go_wp2_with fail
    go_ret
    exact ⟨rfl, BB.out⟩
  have zn : ((n : Int) == 0) = false := by rw [beq_eq_false_iff_ne]; omega
  have qm : ((q : Int) != (m : Int) + (n : Int) - 1) = false := by rw [if_neg (by omega)] at hml; simp only [bne_eq_false_iff_eq]; omega
  clear hml n0 m0
  go_wp2_with fail
  refine (trim_any _ L0 _ H0.out).mono ?_
  rintro e w_8 ⟨va, rfl, hO, hB⟩
  obtain ⟨ava, cva, hsh⟩ := hO.shape
  rw [hm.out] at hsh
  subst hsh
  clear hO
  have H0 := hid_of ((H0.out.below hB).mono hB.size)
  have H1 := hid_of ((H1.out.below hB).mono hB.size)
  have H2 := hid_of ((H2.out.below hB).mono hB.size)
  have Hpq := hid_of ((Hpq.out.below hB).mono hB.size)
  have Hqp := hid_of ((Hqp.out.below hB).mono hB.size)
  have Hpr := hid_of ((Hpr.out.below hB).mono hB.size)
  have Ht := hid_of ((Ht.out.below hB).mono hB.size)
  have Hs := hid_of ((Hs.out.below hB).mono hB.size)
  have BB := hid_of (BB.out.trans (hB.mono BB.out.size))
  clear hB
  go_wp2_with fail
  refine (trim_any _ L1 _ H1.out).mono ?_
  rintro e w_9 ⟨vb, rfl, hO, hB⟩
  obtain ⟨avb, cvb, hsh⟩ := hO.shape
  rw [hn.out] at hsh
  subst hsh
  clear hO
  have H0 := hid_of ((H0.out.below hB).mono hB.size)
  have H1 := hid_of ((H1.out.below hB).mono hB.size)
  have H2 := hid_of ((H2.out.below hB).mono hB.size)
  have Hpq := hid_of ((Hpq.out.below hB).mono hB.size)
  have Hqp := hid_of ((Hqp.out.below hB).mono hB.size)
  have Hpr := hid_of ((Hpr.out.below hB).mono hB.size)
  have Ht := hid_of ((Ht.out.below hB).mono hB.size)
  have Hs := hid_of ((Hs.out.below hB).mono hB.size)
  have BB := hid_of (BB.out.trans (hB.mono BB.out.size))
  clear hB
  go_wp2_with fail
  refine (plusOf_any _ _ _ _ _ Hpq.out Hpr.out).mono ?_
  rintro e w_10 ⟨vu, rfl, hO, hB⟩
  have nw := hid_of hO.bs
  clear hO
  have H0 := hid_of ((H0.out.below hB).mono hB.size)
  have H1 := hid_of ((H1.out.below hB).mono hB.size)
  have H2 := hid_of ((H2.out.below hB).mono hB.size)
  have Hpq := hid_of ((Hpq.out.below hB).mono hB.size)
  have Hqp := hid_of ((Hqp.out.below hB).mono hB.size)
  have Hpr := hid_of ((Hpr.out.below hB).mono hB.size)
  have Ht := hid_of ((Ht.out.below hB).mono hB.size)
  have Hs := hid_of ((Hs.out.below hB).mono hB.size)
  have BB := hid_of (BB.out.trans (hB.mono BB.out.size))
  clear hB
  have Hu := nw
  clear nw
  go_wp2_with fail
  refine (same_any _ _ _ _ _ _ Hs.out Hu.out).mono ?_
  rintro e w_11 ⟨rfl, hB⟩
  rw [decide_eq_true (by rw [M1.out, M3.out, M4.out]; exact pm_plus Y0.out Y1.out Y2.out)]
  have H0 := hid_of ((H0.out.below hB).mono hB.size)
  have H1 := hid_of ((H1.out.below hB).mono hB.size)
  have H2 := hid_of ((H2.out.below hB).mono hB.size)
  have Hpq := hid_of ((Hpq.out.below hB).mono hB.size)
  have Hqp := hid_of ((Hqp.out.below hB).mono hB.size)
  have Hpr := hid_of ((Hpr.out.below hB).mono hB.size)
  have Ht := hid_of ((Ht.out.below hB).mono hB.size)
  have Hs := hid_of ((Hs.out.below hB).mono hB.size)
  have Hu := hid_of ((Hu.out.below hB).mono hB.size)
  have BB := hid_of (BB.out.trans (hB.mono BB.out.size))
  clear hB
  go_wp2_with fail
  refine (mul_all _ _ _ L2 _ Hpq.out H2.out e5 E5.out).mono ?_
  rintro e w_12 ⟨vx, rfl, hO, hB⟩
  have nw := hid_of hO.bs
  clear hO
  have H0 := hid_of ((H0.out.below hB).mono hB.size)
  have H1 := hid_of ((H1.out.below hB).mono hB.size)
  have H2 := hid_of ((H2.out.below hB).mono hB.size)
  have Hpq := hid_of ((Hpq.out.below hB).mono hB.size)
  have Hqp := hid_of ((Hqp.out.below hB).mono hB.size)
  have Hpr := hid_of ((Hpr.out.below hB).mono hB.size)
  have Ht := hid_of ((Ht.out.below hB).mono hB.size)
  have Hs := hid_of ((Hs.out.below hB).mono hB.size)
  have Hu := hid_of ((Hu.out.below hB).mono hB.size)
  have BB := hid_of (BB.out.trans (hB.mono BB.out.size))
  clear hB
  have Hx := nw
  clear nw
  go_wp2_with fail
  refine (mul_all _ _ L1 L2 _ H1.out H2.out e6 E6.out).mono ?_
  rintro e w_13 ⟨vqr, rfl, hO, hB⟩
  have nw := hid_of hO.bs
  clear hO
  have H0 := hid_of ((H0.out.below hB).mono hB.size)
  have H1 := hid_of ((H1.out.below hB).mono hB.size)
  have H2 := hid_of ((H2.out.below hB).mono hB.size)
  have Hpq := hid_of ((Hpq.out.below hB).mono hB.size)
  have Hqp := hid_of ((Hqp.out.below hB).mono hB.size)
  have Hpr := hid_of ((Hpr.out.below hB).mono hB.size)
  have Ht := hid_of ((Ht.out.below hB).mono hB.size)
  have Hs := hid_of ((Hs.out.below hB).mono hB.size)
  have Hu := hid_of ((Hu.out.below hB).mono hB.size)
  have Hx := hid_of ((Hx.out.below hB).mono hB.size)
  have BB := hid_of (BB.out.trans (hB.mono BB.out.size))
  clear hB
  have Hqr := nw
  clear nw
  go_wp2_with fail
  refine (mul_all _ _ L0 _ _ H0.out Hqr.out e7 E7.out).mono ?_
  rintro e w_14 ⟨vy, rfl, hO, hB⟩
  have nw := hid_of hO.bs
  clear hO
  have H0 := hid_of ((H0.out.below hB).mono hB.size)
  have H1 := hid_of ((H1.out.below hB).mono hB.size)
  have H2 := hid_of ((H2.out.below hB).mono hB.size)
  have Hpq := hid_of ((Hpq.out.below hB).mono hB.size)
  have Hqp := hid_of ((Hqp.out.below hB).mono hB.size)
  have Hpr := hid_of ((Hpr.out.below hB).mono hB.size)
  have Ht := hid_of ((Ht.out.below hB).mono hB.size)
  have Hs := hid_of ((Hs.out.below hB).mono hB.size)
  have Hu := hid_of ((Hu.out.below hB).mono hB.size)
  have Hx := hid_of ((Hx.out.below hB).mono hB.size)
  have Hqr := hid_of ((Hqr.out.below hB).mono hB.size)
  have BB := hid_of (BB.out.trans (hB.mono BB.out.size))
  clear hB
  have Hy := nw
  clear nw
  by_cases c5 : e5 = 0
  rotate_left
  · have ze5 := ne_t c5
    go_wp2_with fail
    go_ret
    exact ⟨rfl, BB.out⟩
  have Ce5 := hid_of c5
  have ze5 : ((e5 : Int) != 0) = false := by rw [Ce5.out]; rfl
  clear c5
  by_cases c6 : e6 = 0
  rotate_left
  · have ze6 := ne_t c6
    go_wp2_with fail
    go_ret
    exact ⟨rfl, BB.out⟩
  have Ce6 := hid_of c6
  have ze6 : ((e6 : Int) != 0) = false := by rw [Ce6.out]; rfl
  clear c6
  by_cases c7 : e7 = 0
  rotate_left
  · have ze7 := ne_t c7
    go_wp2_with fail
    go_ret
    exact ⟨rfl, BB.out⟩
  have Ce7 := hid_of c7
  have ze7 : ((e7 : Int) != 0) = false := by rw [Ce7.out]; rfl
  clear c7
  go_wp2_with fail
  refine (same_any _ _ _ _ _ _ Hx.out Hy.out).mono ?_
  rintro e w_15 ⟨rfl, hB⟩
  rw [decide_eq_true (by rw [mer_zero (E5.out.trans Ce5.out), mer_zero (E7.out.trans Ce7.out), M1.out, mer_zero (E6.out.trans Ce6.out)]; exact pm_assoc Y0.out Y1.out Y2.out)]
  have H0 := hid_of ((H0.out.below hB).mono hB.size)
  have H1 := hid_of ((H1.out.below hB).mono hB.size)
  have H2 := hid_of ((H2.out.below hB).mono hB.size)
  have Hpq := hid_of ((Hpq.out.below hB).mono hB.size)
  have Hqp := hid_of ((Hqp.out.below hB).mono hB.size)
  have Hpr := hid_of ((Hpr.out.below hB).mono hB.size)
  have Ht := hid_of ((Ht.out.below hB).mono hB.size)
  have Hs := hid_of ((Hs.out.below hB).mono hB.size)
  have Hu := hid_of ((Hu.out.below hB).mono hB.size)
  have Hx := hid_of ((Hx.out.below hB).mono hB.size)
  have Hqr := hid_of ((Hqr.out.below hB).mono hB.size)
  have Hy := hid_of ((Hy.out.below hB).mono hB.size)
  have BB := hid_of (BB.out.trans (hB.mono BB.out.size))
  clear hB
  go_wp2_with fail
  go_ret
  exact ⟨rfl, BB.out⟩

/-! ### THE ROW's STEP: WRITTEN OUT: LEAVE IT -/
set_option maxRecDepth 100000 in
theorem lifted (os : Os) (started : os.Started) (H : Type) (enc : TypeId × Value → H) :
    ReturnsInHanded {} Try.checked os 5 .any (Rows.polyRingSpec.pre6 enc Try.prog Try.f5 Rows.polyRingRow.domain false) (Rows.polyRingSpec.post enc Try.prog Try.f5 false true false false) := by
  refine returnsInHanded_of_change_sized (C := Try.checked) own started (by kernel_rfl) Try.func5
    (ChangeSpec.witness6 (enc := enc) (C := Try.checked) false ⟨#[], #[.slice none 0 0, .slice none 0 0, .slice none 0 0], []⟩ 8 (by kernel_rfl) (by kernel_rfl) (by kernel_rfl) (by kernel_rfl)) ?_
  intro W base args ds gs before hval0 hW hcnd hsz0 _
  have hsz : (DataW.weightsEach Try.prog (Try.f5.params.toList ++ Rows.polyRingSpec.plain.varTypes Try.prog) (ds ++ gs)).all (· ≤ reachBytes) = true := hsz0
  clear hsz0
  have hval : ∀ (j : Nat) t v, Try.f5.params[j]? = some t → args[j]? = some v → Value.okWide Try.prog W .any base t v := hval0
  have hW' := hW
  obtain ⟨p, q, hA0, hV, rfl, hfz, hnd⟩ := hW
  have hA : DataW.TrodAll enc Try.prog W 0 (fun _ => true) true Try.f5.params.toList args.toList ds p := hA0
  rw [Try.params5] at hA hval hsz
  obtain ⟨v0, vs0, d0, ds0, p0, q0, hargs, rfl, rfl, h0, r0⟩ := trodAll_cons hA
  obtain ⟨v1, vs1, d1, ds1, p1, q1, rfl, rfl, rfl, h1, r1⟩ := trodAll_cons r0
  obtain ⟨v2, vs2, d2, ds2, p2, q2, rfl, rfl, rfl, h2, r2⟩ := trodAll_cons r1
  obtain ⟨rfl, rfl, rfl⟩ := trodAll_nil r2
  obtain rfl : args = #[v0, v1, v2] := by cases args; simp_all
  obtain ⟨rfl, rfl⟩ := trodVars_none hV
  obtain ⟨a0, len0, cap0, rfl⟩ := okWide_slice Try.underlying22 (hval 0 22 v0 rfl rfl)
  have k0 := h0
  have lt0 : ∀ x ∈ p0, x.block < W.heap.size := by obtain ⟨m, hm⟩ := k0; exact DataW.trod_lt m _ _ _ hm
  obtain ⟨L0, w0⟩ : ∃ L, Bs W.heap.size W (.slice a0 len0 cap0) L := by
    obtain ⟨fuel, hf⟩ := h0
    rcases open_ints Try.underlying22 Try.underlying5 (by kernel_rfl) hf with ⟨hcs, _⟩ | ⟨x, l, c, zs, hcs, _, hl, hm, hz, hx, hcell, hwz⟩
    · simp [Value.cells] at hcs
      obtain ⟨rfl, rfl, rfl⟩ := hcs
      exact ⟨[], Bs.nil _ _⟩
    · simp [Value.cells] at hcs
      obtain ⟨rfl, rfl, rfl⟩ := hcs
      have e0 := (Prod.mk.inj hx).1
      have hb := sized_slice hsz (j := 0) (t := 22) (e := 5) rfl (congrArg some e0) Try.underlying22
      rw [show Try.prog.bytesOf 5 = 1 by kernel_rfl] at hb
      simp only [lits, List.length_map, List.length_take, List.length_drop, reachBytes] at hb
      simp only [if_true] at hz
      obtain ⟨L, hL, _⟩ := isRow_bs (.inr ⟨_, rfl, hl, hm, hz, hcell, hwz⟩) (by omega)
      exact ⟨L, hL⟩
  obtain ⟨a1, len1, cap1, rfl⟩ := okWide_slice Try.underlying22 (hval 1 22 v1 rfl rfl)
  have k1 := h1
  have lt1 : ∀ x ∈ p1, x.block < W.heap.size := by obtain ⟨m, hm⟩ := k1; exact DataW.trod_lt m _ _ _ hm
  obtain ⟨L1, w1⟩ : ∃ L, Bs W.heap.size W (.slice a1 len1 cap1) L := by
    obtain ⟨fuel, hf⟩ := h1
    rcases open_ints Try.underlying22 Try.underlying5 (by kernel_rfl) hf with ⟨hcs, _⟩ | ⟨x, l, c, zs, hcs, _, hl, hm, hz, hx, hcell, hwz⟩
    · simp [Value.cells] at hcs
      obtain ⟨rfl, rfl, rfl⟩ := hcs
      exact ⟨[], Bs.nil _ _⟩
    · simp [Value.cells] at hcs
      obtain ⟨rfl, rfl, rfl⟩ := hcs
      have e0 := (Prod.mk.inj hx).1
      have hb := sized_slice hsz (j := 1) (t := 22) (e := 5) rfl (congrArg some e0) Try.underlying22
      rw [show Try.prog.bytesOf 5 = 1 by kernel_rfl] at hb
      simp only [lits, List.length_map, List.length_take, List.length_drop, reachBytes] at hb
      simp only [if_true] at hz
      obtain ⟨L, hL, _⟩ := isRow_bs (.inr ⟨_, rfl, hl, hm, hz, hcell, hwz⟩) (by omega)
      exact ⟨L, hL⟩
  obtain ⟨a2, len2, cap2, rfl⟩ := okWide_slice Try.underlying22 (hval 2 22 v2 rfl rfl)
  have k2 := h2
  have lt2 : ∀ x ∈ p2, x.block < W.heap.size := by obtain ⟨m, hm⟩ := k2; exact DataW.trod_lt m _ _ _ hm
  obtain ⟨L2, w2⟩ : ∃ L, Bs W.heap.size W (.slice a2 len2 cap2) L := by
    obtain ⟨fuel, hf⟩ := h2
    rcases open_ints Try.underlying22 Try.underlying5 (by kernel_rfl) hf with ⟨hcs, _⟩ | ⟨x, l, c, zs, hcs, _, hl, hm, hz, hx, hcell, hwz⟩
    · simp [Value.cells] at hcs
      obtain ⟨rfl, rfl, rfl⟩ := hcs
      exact ⟨[], Bs.nil _ _⟩
    · simp [Value.cells] at hcs
      obtain ⟨rfl, rfl, rfl⟩ := hcs
      have e0 := (Prod.mk.inj hx).1
      have hb := sized_slice hsz (j := 2) (t := 22) (e := 5) rfl (congrArg some e0) Try.underlying22
      rw [show Try.prog.bytesOf 5 = 1 by kernel_rfl] at hb
      simp only [lits, List.length_map, List.length_take, List.length_drop, reachBytes] at hb
      simp only [if_true] at hz
      obtain ⟨L, hL, _⟩ := isRow_bs (.inr ⟨_, rfl, hl, hm, hz, hcell, hwz⟩) (by omega)
      exact ⟨L, hL⟩
  clear hA0 hval0
  refine (walk _ L0 _ L1 _ L2 W w0 w1 w2).mono fun e W' ⟨he, bel⟩ => ?_
  subst he
  exact ⟨_, rfl, _, _, _, [], _, [], hW', trodAll_mk1 (shut_bool Try.underlying4 _), (trodAll_cons_mk (Below.trod laidOut (by kernel_rfl) (of_decide_eq_true (by kernel_rfl)) k0 bel lt0) (trodAll_cons_mk (Below.trod laidOut (by kernel_rfl) (of_decide_eq_true (by kernel_rfl)) k1 bel lt1) (trodAll_cons_mk (Below.trod laidOut (by kernel_rfl) (of_decide_eq_true (by kernel_rfl)) k2 bel lt2) trodAll_mk0))), rfl, bel.frame _, fun h => by cases h⟩

theorem over : Rows.polyRingRow.holds Try.pinned (OpenSpec.ofChange Rows.polyRingSpec) :=
  OpenClaim.holds_of_wide 5 Try.f5 rfl rfl rfl rfl rfl rfl rfl ⟨rfl, rfl, rfl, rfl, rfl⟩ rfl rfl rfl rfl rfl (by kernel_rfl) Try.func5 (by kernel_rfl)
    (of_decide_eq_true (by kernel_rfl)) (by unfold Func.isWrapper; first | (rw [if_pos (by decide +kernel)]; kernel_rfl) | (rw [if_neg (by decide +kernel)]; exact ⟨rfl, rfl⟩))
    (fun os started H enc _ => lifted os started H enc)

/-- ████ THE STATEMENT ████ -/
theorem proved : Rows.PolyRingSaid := over
#print axioms proved
end Go.Proofs.Ytlccdceeppfleaa.polyRing
