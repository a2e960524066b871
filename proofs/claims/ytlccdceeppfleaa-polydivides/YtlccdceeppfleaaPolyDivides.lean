/- B2 (PolyDivides): quotient times divisor, and the rest, are what was divided; the rest is shorter than the divisor; of a product and one of its factors the other one comes back: the walk of the law (made by mkdiv.py) over div_any, mul_all, plusOf_any, trim_any, same_any. -/
import Derived.Test.YtlccdceeppfleaaRows
import Derived.Test.YtlccdceeppfleaaQuo
import Derived.WalkKit
import Derived.ProofKit
import Derived.OpenShut
import Derived.ShutString
import Derived.ChangeOld
import Derived.Below
import Derived.SizedLaws
namespace Go.Proofs.Ytlccdceeppfleaa.polyDivides
open Go.ChangeShapes Go.WideShapes Go.ChangeAt Go.RowKit
open Go.ChangeMaps (open_string shut_string)
set_option linter.unusedVariables false

theorem own : ownKnob Try.prog.godebug = none := by kernel_rfl
theorem laidOut : laidOutB Try.prog = true := by kernel_rfl

/-- what Mul answers beside its product -/
def mer (P Q : List Nat) : Nat := if 64 < P.length ∨ 64 < Q.length then 2 else 0
/-- what Mul gives -/
def mpm (P Q : List Nat) : List Nat := if 64 < P.length ∨ 64 < Q.length then [] else pm P Q
theorem mul_all (pv qv : Value) (P Q : List Nat) (w : World) (hP : Bs w.heap.size w pv P) (hQ : Bs w.heap.size w qv Q) (er : Nat) (her : mer P Q = er) :
    Calls Try.prog 9 #[pv, qv] w fun e w' => ∃ v, e = .returned (.tuple #[v, .int .i64 (er : Nat)]) ∧ Ow w.heap.size w' v (mpm P Q) ∧ Below w.heap.size w w' := by
  unfold mpm
  unfold mer at her
  subst her
  by_cases h : 64 < P.length ∨ 64 < Q.length
  · rw [if_pos h, if_pos h]
    exact (mul_long pv qv P Q w hP hQ h).mono fun e w' ⟨h1, h2⟩ => ⟨_, h1, ⟨World.ownsRow_nil _ _ _ _, by simp, by simp⟩, h2⟩
  · rw [if_neg h, if_neg h]
    exact mulp_any pv qv P Q w hP hQ (by omega) (by omega)
theorem mer_comm (P Q : List Nat) : mer P Q = mer Q P := by simp only [mer, Or.comm]
theorem mpm_comm {P Q : List Nat} (hP : Byt P) (hQ : Byt Q) : mpm P Q = mpm Q P := by
  unfold mpm
  rw [pm_comm hP hQ]
  simp only [Or.comm]
theorem mer_zero {P Q : List Nat} (h : mer P Q = 0) : mpm P Q = pm P Q := by
  unfold mer at h
  unfold mpm
  by_cases c : 64 < P.length ∨ 64 < Q.length
  · rw [if_pos c] at h; cases h
  · rw [if_neg c]
theorem mer_le {P Q : List Nat} (h : mer P Q = 0) : P.length ≤ 64 ∧ Q.length ≤ 64 := by
  unfold mer at h
  by_cases c : 64 < P.length ∨ 64 < Q.length
  · rw [if_pos c] at h; cases h
  · omega
theorem ne_t {n : Nat} (h : n ≠ 0) : ((n : Int) != 0) = true := by rw [bne_iff_ne]; omega
theorem le64 {a b : Nat} (h : a = b) (z : decide ((64 : Int) < (b : Int)) = false) : a ≤ 64 := by
  have := of_decide_eq_false z
  omega
theorem t64 {b : Nat} (c : 64 < b) : decide ((64 : Int) < (b : Int)) = true := decide_eq_true (by omega)
theorem f64 {b : Nat} (c : b ≤ 64) : decide ((64 : Int) < (b : Int)) = false := decide_eq_false (by omega)
set_option maxRecDepth 100000 in
set_option maxHeartbeats 8000000 in
theorem walk_err (v0 : Value) (v1 : Value) (er : Int) (her : (er != 0) = true) (w : World)
    (hm : Calls Try.prog 10 #[v0, v1] w fun e w' => e = .returned (.tuple #[.slice none 0 0, .slice none 0 0, .int .i64 er]) ∧ Below w.heap.size w w') :
    Calls Try.prog 6 #[v0, v1] w fun e w' => e = .returned (.bool true) ∧ Below w.heap.size w w' := by
  have Hm := hid_of hm
  clear hm
  go_enter Try.func6, Try.ntmps6
  go_wp2_with fail
  refine Hm.out.mono ?_
  rintro e w1 ⟨rfl, hB1⟩
  go_wp2_with fail
  refine (begun_any _).mono ?_
  rintro e w2 ⟨rfl, hB2⟩
  go_wp2_with fail
  go_ret
  exact ⟨rfl, hB1.trans (hB2.mono hB1.size)⟩
set_option maxRecDepth 100000 in
set_option maxHeartbeats 8000000 in
theorem walk_ok (v0 : Value) (L0 : List Nat) (v1 : Value) (L1 : List Nat) (w : World) (w0 : Bs w.heap.size w v0 L0) (w1 : Bs w.heap.size w v1 L1) (l0 : L0.length ≤ 64) (l1 : L1.length ≤ 64) (n0 : trim L1 ≠ []) :
    Calls Try.prog 6 #[v0, v1] w fun e w' => e = .returned (.bool true) ∧ Below w.heap.size w w' := by
  have H0 := hid_of w0
  have H1 := hid_of w1
  have Y0 := hid_of w0.1
  have Y1 := hid_of w1.1
  have N0 := hid_of n0
  obtain ⟨f1, f2, f3, f4, f5⟩ := div_fin w0.1 w1.1 n0
  have F4 := hid_of f4
  have e1 : mer (pdq L0 L1) L1 = 0 := by unfold mer; rw [if_neg (by omega)]
  have e2 : mer L0 L1 = 0 := by unfold mer; rw [if_neg (by omega)]
  have E1 := hid_of e1
  have E2 := hid_of e2
  have M1 := hid_of (mer_zero e1)
  have M2 := hid_of (mer_zero e2)
  have K := hid_of (div_pm w0.1 w1.1 n0)
  have D := hid_of (div_back w0.1 w1.1 n0)
  obtain ⟨lr, hlr⟩ : ∃ m, (pdr L0 L1).length = m := ⟨_, rfl⟩
  obtain ⟨lq, hlq⟩ : ∃ m, (trim L1).length = m := ⟨_, rfl⟩
  obtain ⟨ln, hln⟩ : ∃ m, (pm L0 L1).length = m := ⟨_, rfl⟩
  rw [hlr, hlq] at f2
  have zr : decide ((lq : Int) ≤ (lr : Int)) = false := decide_eq_false (by omega)
  have zr2 : decide (lq ≤ lr) = false := decide_eq_false (by omega)
  have zr3 : ¬ lq ≤ lr := by omega
  have LR := hid_of hlr
  have LQ := hid_of hlq
  have LN := hid_of hln
  have B0 := hid_of l0
  have B1 := hid_of l1
  clear w0 w1 f1 f2 f3 f4 f5 e1 e2 n0 l0 l1 hlr hlq hln
  go_enter Try.func6, Try.ntmps6
  go_wp2_with fail
  refine (div_any _ _ L0 L1 _ H0.out H1.out B0.out B1.out N0.out).mono ?_
  rintro e w_1 ⟨va, vr, rfl, hO, hR, hB⟩
  obtain ⟨xvr, cvr, hsh⟩ := hR.shape
  rw [LR.out] at hsh
  subst hsh
  have nw := hid_of hO.bs
  have nr := hid_of hR.bs
  clear hO hR
  have H0 := hid_of ((H0.out.below hB).mono hB.size)
  have H1 := hid_of ((H1.out.below hB).mono hB.size)
  have BB := hid_of hB
  clear hB
  have Ha := nw
  have Hr := nr
  clear nw nr
  go_wp2_with fail
  refine (begun_any _).mono ?_
  rintro e w_2 ⟨rfl, hB⟩
  have H0 := hid_of ((H0.out.below hB).mono hB.size)
  have H1 := hid_of ((H1.out.below hB).mono hB.size)
  have Ha := hid_of ((Ha.out.below hB).mono hB.size)
  have Hr := hid_of ((Hr.out.below hB).mono hB.size)
  have BB := hid_of (BB.out.trans (hB.mono BB.out.size))
  clear hB
  go_wp2_with fail
  refine (mul_all _ _ _ L1 _ Ha.out H1.out 0 E1.out).mono ?_
  rintro e w_3 ⟨vm, rfl, hO, hB⟩
  rw [M1.out] at hO
  have nw := hid_of hO.bs
  clear hO
  have H0 := hid_of ((H0.out.below hB).mono hB.size)
  have H1 := hid_of ((H1.out.below hB).mono hB.size)
  have Ha := hid_of ((Ha.out.below hB).mono hB.size)
  have Hr := hid_of ((Hr.out.below hB).mono hB.size)
  have BB := hid_of (BB.out.trans (hB.mono BB.out.size))
  clear hB
  have Hm := nw
  clear nw
  go_wp2_with fail
  refine (plusOf_any _ _ _ _ _ Hm.out Hr.out).mono ?_
  rintro e w_4 ⟨vu, rfl, hO, hB⟩
  have nw := hid_of hO.bs
  clear hO
  have H0 := hid_of ((H0.out.below hB).mono hB.size)
  have H1 := hid_of ((H1.out.below hB).mono hB.size)
  have Ha := hid_of ((Ha.out.below hB).mono hB.size)
  have Hr := hid_of ((Hr.out.below hB).mono hB.size)
  have Hm := hid_of ((Hm.out.below hB).mono hB.size)
  have BB := hid_of (BB.out.trans (hB.mono BB.out.size))
  clear hB
  have Hu := nw
  clear nw
  go_wp2_with fail
  refine (trim_any _ L0 _ H0.out).mono ?_
  rintro e w_5 ⟨vt, rfl, hO, hB⟩
  have nw := hid_of hO.bs
  clear hO
  have H0 := hid_of ((H0.out.below hB).mono hB.size)
  have H1 := hid_of ((H1.out.below hB).mono hB.size)
  have Ha := hid_of ((Ha.out.below hB).mono hB.size)
  have Hr := hid_of ((Hr.out.below hB).mono hB.size)
  have Hm := hid_of ((Hm.out.below hB).mono hB.size)
  have Hu := hid_of ((Hu.out.below hB).mono hB.size)
  have BB := hid_of (BB.out.trans (hB.mono BB.out.size))
  clear hB
  have Ht := nw
  clear nw
  go_wp2_with fail
  refine (same_any _ _ _ _ _ _ Hu.out Ht.out).mono ?_
  rintro e w_6 ⟨rfl, hB⟩
  rw [decide_eq_true D.out]
  have H0 := hid_of ((H0.out.below hB).mono hB.size)
  have H1 := hid_of ((H1.out.below hB).mono hB.size)
  have Ha := hid_of ((Ha.out.below hB).mono hB.size)
  have Hr := hid_of ((Hr.out.below hB).mono hB.size)
  have Hm := hid_of ((Hm.out.below hB).mono hB.size)
  have Hu := hid_of ((Hu.out.below hB).mono hB.size)
  have Ht := hid_of ((Ht.out.below hB).mono hB.size)
  have BB := hid_of (BB.out.trans (hB.mono BB.out.size))
  clear hB
  go_wp2_with fail
  refine (trim_any _ L1 _ H1.out).mono ?_
  rintro e w_7 ⟨vb, rfl, hO, hB⟩
  obtain ⟨avb, cvb, hsh⟩ := hO.shape
  rw [LQ.out] at hsh
  subst hsh
  clear hO
  have H0 := hid_of ((H0.out.below hB).mono hB.size)
  have H1 := hid_of ((H1.out.below hB).mono hB.size)
  have Ha := hid_of ((Ha.out.below hB).mono hB.size)
  have Hr := hid_of ((Hr.out.below hB).mono hB.size)
  have Hm := hid_of ((Hm.out.below hB).mono hB.size)
  have Hu := hid_of ((Hu.out.below hB).mono hB.size)
  have Ht := hid_of ((Ht.out.below hB).mono hB.size)
  have BB := hid_of (BB.out.trans (hB.mono BB.out.size))
  clear hB
  go_wp2_with fail
  refine (mul_all _ _ L0 L1 _ H0.out H1.out 0 E2.out).mono ?_
  rintro e w_8 ⟨vn, rfl, hO, hB⟩
  rw [M2.out] at hO
  obtain ⟨avn, cvn, hsh⟩ := hO.shape
  rw [LN.out] at hsh
  subst hsh
  have nw := hid_of hO.bs
  clear hO
  have H0 := hid_of ((H0.out.below hB).mono hB.size)
  have H1 := hid_of ((H1.out.below hB).mono hB.size)
  have Ha := hid_of ((Ha.out.below hB).mono hB.size)
  have Hr := hid_of ((Hr.out.below hB).mono hB.size)
  have Hm := hid_of ((Hm.out.below hB).mono hB.size)
  have Hu := hid_of ((Hu.out.below hB).mono hB.size)
  have Ht := hid_of ((Ht.out.below hB).mono hB.size)
  have BB := hid_of (BB.out.trans (hB.mono BB.out.size))
  clear hB
  have Hn := nw
  clear nw
  rcases Nat.lt_or_ge 64 ln with c | c
  · have zn := t64 c
    have zn2 : decide (64 < ln) = true := decide_eq_true c
    go_wp2_with fail
    go_ret
    exact ⟨rfl, BB.out⟩
  have zn := f64 c
  have zn2 : decide (64 < ln) = false := decide_eq_false (Nat.not_lt.2 c)
  have zn3 : ¬ 64 < ln := Nat.not_lt.2 c
  go_wp2_with fail
  refine (div_any _ _ (pm L0 L1) L1 _ Hn.out H1.out (le64 LN.out zn) B1.out N0.out).mono ?_
  rintro e w_9 ⟨vq, vs, rfl, hO, hR, hB⟩
  rw [K.out.1] at hO
  rw [K.out.2] at hR
  obtain ⟨xvs, cvs, hsh⟩ := hR.shape
  subst hsh
  have nw := hid_of hO.bs
  have nr := hid_of hR.bs
  clear hO hR
  have H0 := hid_of ((H0.out.below hB).mono hB.size)
  have H1 := hid_of ((H1.out.below hB).mono hB.size)
  have Ha := hid_of ((Ha.out.below hB).mono hB.size)
  have Hr := hid_of ((Hr.out.below hB).mono hB.size)
  have Hm := hid_of ((Hm.out.below hB).mono hB.size)
  have Hu := hid_of ((Hu.out.below hB).mono hB.size)
  have Ht := hid_of ((Ht.out.below hB).mono hB.size)
  have Hn := hid_of ((Hn.out.below hB).mono hB.size)
  have BB := hid_of (BB.out.trans (hB.mono BB.out.size))
  clear hB
  have Hq := nw
  have Hs := nr
  clear nw nr
  go_wp2_with fail
  refine (trim_any _ L0 _ H0.out).mono ?_
  rintro e w_10 ⟨vz, rfl, hO, hB⟩
  have nw := hid_of hO.bs
  clear hO
  have H0 := hid_of ((H0.out.below hB).mono hB.size)
  have H1 := hid_of ((H1.out.below hB).mono hB.size)
  have Ha := hid_of ((Ha.out.below hB).mono hB.size)
  have Hr := hid_of ((Hr.out.below hB).mono hB.size)
  have Hm := hid_of ((Hm.out.below hB).mono hB.size)
  have Hu := hid_of ((Hu.out.below hB).mono hB.size)
  have Ht := hid_of ((Ht.out.below hB).mono hB.size)
  have Hn := hid_of ((Hn.out.below hB).mono hB.size)
  have Hq := hid_of ((Hq.out.below hB).mono hB.size)
  have Hs := hid_of ((Hs.out.below hB).mono hB.size)
  have BB := hid_of (BB.out.trans (hB.mono BB.out.size))
  clear hB
  have Hz := nw
  clear nw
  go_wp2_with fail
  refine (same_any _ _ _ _ _ _ Hq.out Hz.out).mono ?_
  rintro e w_11 ⟨rfl, hB⟩
  rw [decide_eq_true rfl]
  have H0 := hid_of ((H0.out.below hB).mono hB.size)
  have H1 := hid_of ((H1.out.below hB).mono hB.size)
  have Ha := hid_of ((Ha.out.below hB).mono hB.size)
  have Hr := hid_of ((Hr.out.below hB).mono hB.size)
  have Hm := hid_of ((Hm.out.below hB).mono hB.size)
  have Hu := hid_of ((Hu.out.below hB).mono hB.size)
  have Ht := hid_of ((Ht.out.below hB).mono hB.size)
  have Hn := hid_of ((Hn.out.below hB).mono hB.size)
  have Hq := hid_of ((Hq.out.below hB).mono hB.size)
  have Hs := hid_of ((Hs.out.below hB).mono hB.size)
  have Hz := hid_of ((Hz.out.below hB).mono hB.size)
  have BB := hid_of (BB.out.trans (hB.mono BB.out.size))
  clear hB
  go_wp2_with fail
  go_ret
  exact ⟨rfl, BB.out⟩
theorem walk (v0 : Value) (L0 : List Nat) (v1 : Value) (L1 : List Nat) (w : World) (w0 : Bs w.heap.size w v0 L0) (w1 : Bs w.heap.size w v1 L1) :
    Calls Try.prog 6 #[v0, v1] w fun e w' => e = .returned (.bool true) ∧ Below w.heap.size w w' := by
  by_cases h : 64 < L0.length ∨ 64 < L1.length
  · exact walk_err v0 v1 2 (by decide) w (div_long v0 v1 L0 L1 w w0 w1 h)
  · by_cases n0 : trim L1 = []
    · exact walk_err v0 v1 5 (by decide) w (div_none v0 v1 L0 L1 w w0 w1 (by omega) (by omega) n0)
    · exact walk_ok v0 L0 v1 L1 w w0 w1 (by omega) (by omega) n0

/-! ### THE ROW's STEP: WRITTEN OUT: LEAVE IT -/
set_option maxRecDepth 100000 in
theorem lifted (os : Os) (started : os.Started) (H : Type) (enc : TypeId × Value → H) :
    ReturnsInHanded {} Try.checked os 6 .any (Rows.polyDividesSpec.pre6 enc Try.prog Try.f6 Rows.polyDividesRow.domain false) (Rows.polyDividesSpec.post enc Try.prog Try.f6 false true false false) := by
  refine returnsInHanded_of_change_sized (C := Try.checked) own started (by kernel_rfl) Try.func6
    (ChangeSpec.witness6 (enc := enc) (C := Try.checked) false ⟨#[], #[.slice none 0 0, .slice none 0 0], []⟩ 8 (by kernel_rfl) (by kernel_rfl) (by kernel_rfl) (by kernel_rfl)) ?_
  intro W base args ds gs before hval0 hW hcnd hsz0 _
  have hsz : (DataW.weightsEach Try.prog (Try.f6.params.toList ++ Rows.polyDividesSpec.plain.varTypes Try.prog) (ds ++ gs)).all (· ≤ reachBytes) = true := hsz0
  clear hsz0
  have hval : ∀ (j : Nat) t v, Try.f6.params[j]? = some t → args[j]? = some v → Value.okWide Try.prog W .any base t v := hval0
  have hW' := hW
  obtain ⟨p, q, hA0, hV, rfl, hfz, hnd⟩ := hW
  have hA : DataW.TrodAll enc Try.prog W 0 (fun _ => true) true Try.f6.params.toList args.toList ds p := hA0
  rw [Try.params6] at hA hval hsz
  obtain ⟨v0, vs0, d0, ds0, p0, q0, hargs, rfl, rfl, h0, r0⟩ := trodAll_cons hA
  obtain ⟨v1, vs1, d1, ds1, p1, q1, rfl, rfl, rfl, h1, r1⟩ := trodAll_cons r0
  obtain ⟨rfl, rfl, rfl⟩ := trodAll_nil r1
  obtain rfl : args = #[v0, v1] := by cases args; simp_all
  obtain ⟨rfl, rfl⟩ := trodVars_none hV
  obtain ⟨a0, len0, cap0, rfl⟩ := okWide_slice Try.underlying22 (hval 0 22 v0 rfl rfl)
  have k0 := h0
  have lt0 : ∀ x ∈ p0, x.block < W.heap.size := by obtain ⟨m, hm⟩ := k0; exact DataW.trod_lt m _ _ _ hm
  obtain ⟨L0, w0⟩ : ∃ L, Bs W.heap.size W (.slice a0 len0 cap0) L := by
    obtain ⟨fuel, hf⟩ := h0
    rcases open_ints Try.underlying22 Try.underlying5 (by kernel_rfl) hf with ⟨hcs, _⟩ | ⟨x, l, c, zs, hcs, _, hl, hm, hz, hx, hcell, hwz⟩
    · simp [Value.cells] at hcs
      obtain ⟨rfl, rfl, rfl⟩ := hcs
      exact ⟨[], Bs.nil _ _⟩
    · simp [Value.cells] at hcs
      obtain ⟨rfl, rfl, rfl⟩ := hcs
      have e0 := (Prod.mk.inj hx).1
      have hb := sized_slice hsz (j := 0) (t := 22) (e := 5) rfl (congrArg some e0) Try.underlying22
      rw [show Try.prog.bytesOf 5 = 1 by kernel_rfl] at hb
      simp only [lits, List.length_map, List.length_take, List.length_drop, reachBytes] at hb
      simp only [if_true] at hz
      obtain ⟨L, hL, _⟩ := isRow_bs (.inr ⟨_, rfl, hl, hm, hz, hcell, hwz⟩) (by omega)
      exact ⟨L, hL⟩
  obtain ⟨a1, len1, cap1, rfl⟩ := okWide_slice Try.underlying22 (hval 1 22 v1 rfl rfl)
  have k1 := h1
  have lt1 : ∀ x ∈ p1, x.block < W.heap.size := by obtain ⟨m, hm⟩ := k1; exact DataW.trod_lt m _ _ _ hm
  obtain ⟨L1, w1⟩ : ∃ L, Bs W.heap.size W (.slice a1 len1 cap1) L := by
    obtain ⟨fuel, hf⟩ := h1
    rcases open_ints Try.underlying22 Try.underlying5 (by kernel_rfl) hf with ⟨hcs, _⟩ | ⟨x, l, c, zs, hcs, _, hl, hm, hz, hx, hcell, hwz⟩
    · simp [Value.cells] at hcs
      obtain ⟨rfl, rfl, rfl⟩ := hcs
      exact ⟨[], Bs.nil _ _⟩
    · simp [Value.cells] at hcs
      obtain ⟨rfl, rfl, rfl⟩ := hcs
      have e0 := (Prod.mk.inj hx).1
      have hb := sized_slice hsz (j := 1) (t := 22) (e := 5) rfl (congrArg some e0) Try.underlying22
      rw [show Try.prog.bytesOf 5 = 1 by kernel_rfl] at hb
      simp only [lits, List.length_map, List.length_take, List.length_drop, reachBytes] at hb
      simp only [if_true] at hz
      obtain ⟨L, hL, _⟩ := isRow_bs (.inr ⟨_, rfl, hl, hm, hz, hcell, hwz⟩) (by omega)
      exact ⟨L, hL⟩
  clear hA0 hval0
  refine (walk _ L0 _ L1 W w0 w1).mono fun e W' ⟨he, bel⟩ => ?_
  subst he
  exact ⟨_, rfl, _, _, _, [], _, [], hW', trodAll_mk1 (shut_bool Try.underlying4 _), (trodAll_cons_mk (Below.trod laidOut (by kernel_rfl) (of_decide_eq_true (by kernel_rfl)) k0 bel lt0) (trodAll_cons_mk (Below.trod laidOut (by kernel_rfl) (of_decide_eq_true (by kernel_rfl)) k1 bel lt1) trodAll_mk0)), rfl, bel.frame _, fun h => by cases h⟩

theorem over : Rows.polyDividesRow.holds Try.pinned (OpenSpec.ofChange Rows.polyDividesSpec) :=
  OpenClaim.holds_of_wide 6 Try.f6 rfl rfl rfl rfl rfl rfl rfl ⟨rfl, rfl, rfl, rfl, rfl⟩ rfl rfl rfl rfl rfl (by kernel_rfl) Try.func6 (by kernel_rfl)
    (of_decide_eq_true (by kernel_rfl)) (by unfold Func.isWrapper; first | (rw [if_pos (by decide +kernel)]; kernel_rfl) | (rw [if_neg (by decide +kernel)]; exact ⟨rfl, rfl⟩))
    (fun os started H enc _ => lifted os started H enc)

/-- ████ THE STATEMENT ████ -/
theorem proved : Rows.PolyDividesSaid := over
#print axioms proved
end Go.Proofs.Ytlccdceeppfleaa.polyDivides
