/- For every layout, stripe, two pieces and a node the statement LayoutBack answers true: a node has just the piece that is on it, and no two pieces of a stripe are on one node; with no condition. -/
import Derived.Test.YtegpniiokiejhaaRows
import Derived.Test.YtegpniiokiejhaaLyB
import Derived.Test.YtegpniiokiejhaaLa
import Derived.WalkKit
import Derived.ProofKit
import Derived.OpenShut
import Derived.ShutString
import Derived.ChangeOld
import Derived.Below
import Derived.SizedLaws
namespace Go.Proofs.Ytegpniiokiejhaa.layoutBack
open Go.ChangeShapes Go.WideShapes Go.ChangeAt Go.RowKit
open Go.ChangeMaps (open_string shut_string)
set_option linter.unusedVariables false

theorem own : ownKnob Try.prog.godebug = none := by kernel_rfl
theorem laidOut : laidOutB Try.prog = true := by kernel_rfl

theorem ret_true {b : Bool} (h : b = true) : Ending.returned (.bool b) = .returned (.bool true) := by rw [h]
theorem mod_near {N x : Int} (h1 : 1 ≤ N) (h2 : -N < x) (h3 : x < N) (h : x % N = 0) : x = 0 := by
  have e := Int.mul_ediv_add_emod x N
  rw [h] at e
  rcases Int.lt_trichotomy (x / N) 0 with c | c | c
  · have : N * (x / N) ≤ N * (-1) := Int.mul_le_mul_of_nonneg_left (by omega) (by omega)
    omega
  · rw [c] at e; omega
  · have : N * 1 ≤ N * (x / N) := Int.mul_le_mul_of_nonneg_left (by omega) (by omega)
    omega
theorem nd_inj {N D M T s a b : Int} (h1 : ndE N D M T s a = 0) (h2 : ndE N D M T s b = 0) : ndV N D M T s a = ndV N D M T s b ↔ a = b := by
  obtain ⟨hL, s1, s2, a1, a2⟩ := nd_zero h1
  obtain ⟨_, _, _, b1, b2⟩ := nd_zero h2
  unfold ndV
  rw [if_pos h1, if_pos h2]
  constructor
  · intro h
    have e := Int.emod_emod_of_dvd (T + s + a - (T + s + b)) (Int.dvd_refl N)
    have h0 : (T + s + a - (T + s + b)) % N = 0 := by rw [Int.sub_emod, h]; simp
    have := mod_near hL.n1 (x := T + s + a - (T + s + b)) (by have := hL.few; omega) (by have := hL.few; omega) h0
    omega
  · rintro rfl; rfl
theorem pc_nd {N D M T s a : Int} (h1 : ndE N D M T s a = 0) : pcE N D M T s (ndV N D M T s a) = 0 ∧ pcB N D M T s (ndV N D M T s a) = true ∧ pcV N D M T s (ndV N D M T s a) = a := by
  obtain ⟨hL, s1, s2, a1, a2⟩ := nd_zero h1
  have hv : ndV N D M T s a = (T + s + a) % N := by unfold ndV; rw [if_pos h1]
  have p1 := Int.emod_nonneg (T + s + a) (show N ≠ 0 by have := hL.n1; omega)
  have p2 := Int.emod_lt_of_pos (T + s + a) (show 0 < N by have := hL.n1; omega)
  have e1 : pcE N D M T s (ndV N D M T s a) = 0 := by rw [hv]; exact pc_of hL s1 s2 p1 p2
  have hp : pcP N T s (ndV N D M T s a) = a := by
    unfold pcP ndo
    rw [hv]
    have h0 : ((T + s + a) % N - (T + s + 0) % N + N) % N = a % N := by
      rw [Int.add_emod_right, ← Int.sub_emod]
      congr 1
      omega
    rw [h0]
    exact Int.emod_eq_of_lt a1 (by have := hL.few; omega)
  have e2 : pcB N D M T s (ndV N D M T s a) = true := by
    unfold pcB
    rw [e1, hp]
    simp [a2]
  refine ⟨e1, e2, ?_⟩
  unfold pcV
  rw [if_pos e2, hp]
theorem nd_pc {N D M T s n : Int} (h1 : pcE N D M T s n = 0) (h2 : pcB N D M T s n = true) : ndE N D M T s (pcV N D M T s n) = 0 ∧ ndV N D M T s (pcV N D M T s n) = n := by
  obtain ⟨hL, s1, s2, n1, n2⟩ := pc_zero h1
  have h3 : pcP N T s n < D + M := by
    unfold pcB at h2
    rw [Bool.and_eq_true] at h2
    exact of_decide_eq_true h2.2
  have hv : pcV N D M T s n = pcP N T s n := by unfold pcV; rw [if_pos h2]
  have p0 : 0 ≤ pcP N T s n := Int.emod_nonneg _ (by have := hL.n1; omega)
  have e1 : ndE N D M T s (pcV N D M T s n) = 0 := by rw [hv]; exact nd_of hL s1 s2 p0 h3
  refine ⟨e1, ?_⟩
  unfold ndV
  rw [if_pos e1, hv]
  unfold pcP ndo
  have h0 : (T + s + (n - (T + s + 0) % N + N) % N) % N = n % N := by
    rw [Int.add_emod, Int.emod_emod_of_dvd _ (Int.dvd_refl N), ← Int.add_emod, show T + s + (n - (T + s + 0) % N + N) = (T + s + n) - (T + s + 0) % N + N by omega, Int.add_emod_right, Int.sub_emod, Int.emod_emod_of_dvd _ (Int.dvd_refl N), ← Int.sub_emod]
    congr 1
    omega
  rw [h0]
  exact Int.emod_eq_of_lt n1 n2
theorem pcV_no {N D M T s n : Int} (h : pcB N D M T s n = false) : pcV N D M T s n = 0 := by
  unfold pcV
  rw [h]
  rfl
theorem pcB_no {N D M T s n : Int} (h : pcE N D M T s n ≠ 0) : pcB N D M T s n = false := by
  unfold pcB
  rw [decide_eq_false h]
  rfl
set_option maxRecDepth 100000 in
set_option maxHeartbeats 4000000 in
/-- behind the first part: the piece of a node, and back -/
theorem walk (N D M T s a b n : Int) (w : World) (yN : (Lit.int .i64 N).wf = true) (yD : (Lit.int .i64 D).wf = true) (yM : (Lit.int .i64 M).wf = true) (yT : (Lit.int .i64 T).wf = true) (ws : (Lit.int .i64 s).wf = true) (wa : (Lit.int .i64 a).wf = true) (wb : (Lit.int .i64 b).wf = true) (wn : (Lit.int .i64 n).wf = true) :
    Calls Try.prog 4 #[lay N D M T, .int .i64 s, .int .i64 a, .int .i64 b, .int .i64 n] w fun e w' => e = .returned (.bool true) ∧ Below w.heap.size w w' := by
  have b0 := below_new w (.cells #[.int .i64 N, .int .i64 D, .int .i64 M, .int .i64 T] 23)
  have X0 := hid_of (show Bx _ _ _ _ _ _ from heap_new w (.cells #[.int .i64 N, .int .i64 D, .int .i64 M, .int .i64 T] 23))
  have B0 := hid_of b0
  have HI := hid_of (@nd_inj N D M T s a b)
  have HP := hid_of (@pc_nd N D M T s a)
  have HQ := hid_of (@nd_pc N D M T s n)
  have HV0 := hid_of (@pcV_no N D M T s n)
  have HB0 := hid_of (@pcB_no N D M T s n)
  clear b0 yN yD yM yT ws wa wb wn
  have HN : Hid (lay N D M T = .agg #[.int .i64 N, .int .i64 D, .int .i64 M, .int .i64 T]) := rfl
  rw [HN.out]
  go_enter Try.func4, Try.ntmps4
  go_wp2_with fail
  generalize w.alloc (.cells #[.int .i64 N, .int .i64 D, .int .i64 M, .int .i64 T] 23) = W at *
  refine (node_any N D M T s a _).mono ?_
  rintro e w1 ⟨rfl, h1⟩
  have B1 := hid_of (B0.out.trans (h1.mono B0.out.size))
  have X1 := hid_of (X0.out.below h1)
  obtain ⟨k0, k1, k2, k3⟩ := X1.out.cells
  clear h1 B0 X0
  generalize ndV N D M T s a = x at HP HI ⊢
  generalize ndE N D M T s a = e1 at HP HI ⊢
  have HPX := hid_of (piece_any N D M T s x)
  generalize pcV N D M T s x = pv at HP HPX
  generalize pcB N D M T s x = pb at HP HPX
  generalize pcE N D M T s x = pe at HP HPX
  go_wp2_with fail
  refine (node_any N D M T s b _).mono ?_
  rintro e w2 ⟨rfl, h2⟩
  have B2 := hid_of (B1.out.trans (h2.mono B1.out.size))
  have X2 := hid_of (X1.out.below h2)
  clear k0 k1 k2 k3 h2 B1 X1
  generalize ndV N D M T s b = y at HI ⊢
  generalize ndE N D M T s b = e2 at HI ⊢
  go_wp2_with fail
  refine (begun_any _).mono ?_
  rintro e w3 ⟨rfl, h3⟩
  have B3 := hid_of (B2.out.trans (h3.mono B2.out.size))
  have X3 := hid_of (X2.out.below h3)
  obtain ⟨k0, k1, k2, k3⟩ := X3.out.cells
  clear h3 B2 X2
  have HPN := hid_of (piece_any N D M T s n)
  generalize pcV N D M T s n = pn at HPN HQ HV0
  generalize pcB N D M T s n = nb at HQ HPN HV0 HB0
  generalize pcE N D M T s n = ne at HQ HPN HB0
  have HNP := hid_of (node_any N D M T s pn)
  generalize ndV N D M T s pn = z at HQ HNP
  generalize ndE N D M T s pn = ze at HQ HNP
  by_cases c1 : e1 = 0
  · obtain ⟨r1, r2, r3⟩ := HP.out c1
    by_cases c2 : e2 = 0
    · have hi := HI.out c1 c2
      by_cases h : a = b
      · have hx := hi.2 h
        subst c1 c2 r1 r2 r3 h hx
        clear hi HI HP
        go_wp2_with fail
        refine (HPX.out _).mono ?_
        rintro e w4 ⟨rfl, h4⟩
        have B4 := hid_of (B3.out.trans (h4.mono B3.out.size))
        have X4 := hid_of (X3.out.below h4)
        clear k0 k1 k2 k3
        obtain ⟨k0, k1, k2, k3⟩ := X4.out.cells
        clear h4 B3 X3
        go_wp2_with fail
        refine (HPN.out _).mono ?_
        rintro e w5 ⟨rfl, h5⟩
        have B5 := hid_of (B4.out.trans (h5.mono B4.out.size))
        clear k0 k1 k2 k3
        obtain ⟨k0, k1, k2, k3⟩ := (X4.out.below h5).cells
        clear h5 B4 X4
        by_cases f1 : ne = 0
        · subst f1
          cases f2 : nb
          · have hp := HV0.out f2
            subst hp f2
            go_wp2_with fail
            go_ret
            exact ⟨rfl, B5.out⟩
          · obtain ⟨q1, q2⟩ := HQ.out rfl f2
            subst q1 q2 f2
            clear HV0 HB0 HQ
            go_wp2_with fail
            refine (HNP.out _).mono ?_
            rintro e w6 ⟨rfl, h6⟩
            have B6 := hid_of (B5.out.trans (h6.mono B5.out.size))
            clear h6 B5
            go_wp2_with fail
            go_ret
            exact ⟨ret_true (by simp), B6.out⟩
        · have hb := HB0.out f1
          have hp := HV0.out hb
          subst hb hp
          have t1 : (ne != 0) = true := by rw [bne_iff_ne]; exact f1
          go_wp2_with fail
          go_ret
          exact ⟨rfl, B5.out⟩
      · have h1 : (a == b) = false := beq_eq_false_iff_ne.2 h
        have h2 : (x == y) = false := beq_eq_false_iff_ne.2 (fun e => h (hi.1 e))
        subst c1 c2 r1 r2 r3
        clear hi HI HP h
        go_wp2_with fail
        refine (HPX.out _).mono ?_
        rintro e w4 ⟨rfl, h4⟩
        have B4 := hid_of (B3.out.trans (h4.mono B3.out.size))
        have X4 := hid_of (X3.out.below h4)
        clear k0 k1 k2 k3
        obtain ⟨k0, k1, k2, k3⟩ := X4.out.cells
        clear h4 B3 X3
        go_wp2_with fail
        refine (HPN.out _).mono ?_
        rintro e w5 ⟨rfl, h5⟩
        have B5 := hid_of (B4.out.trans (h5.mono B4.out.size))
        clear k0 k1 k2 k3
        obtain ⟨k0, k1, k2, k3⟩ := (X4.out.below h5).cells
        clear h5 B4 X4
        by_cases f1 : ne = 0
        · subst f1
          cases f2 : nb
          · have hp := HV0.out f2
            subst hp f2
            go_wp2_with fail
            go_ret
            exact ⟨rfl, B5.out⟩
          · obtain ⟨q1, q2⟩ := HQ.out rfl f2
            subst q1 q2 f2
            clear HV0 HB0 HQ
            go_wp2_with fail
            refine (HNP.out _).mono ?_
            rintro e w6 ⟨rfl, h6⟩
            have B6 := hid_of (B5.out.trans (h6.mono B5.out.size))
            clear h6 B5
            go_wp2_with fail
            go_ret
            exact ⟨ret_true (by simp), B6.out⟩
        · have hb := HB0.out f1
          have hp := HV0.out hb
          subst hb hp
          have t1 : (ne != 0) = true := by rw [bne_iff_ne]; exact f1
          go_wp2_with fail
          go_ret
          exact ⟨rfl, B5.out⟩
    · have t2 : (e2 == 0) = false := by rw [beq_eq_false_iff_ne]; exact c2
      subst c1 r1 r2 r3
      clear HI HP
      go_wp2_with fail
      refine (HPX.out _).mono ?_
      rintro e w4 ⟨rfl, h4⟩
      have B4 := hid_of (B3.out.trans (h4.mono B3.out.size))
      have X4 := hid_of (X3.out.below h4)
      clear k0 k1 k2 k3
      obtain ⟨k0, k1, k2, k3⟩ := X4.out.cells
      clear h4 B3 X3
      go_wp2_with fail
      refine (HPN.out _).mono ?_
      rintro e w5 ⟨rfl, h5⟩
      have B5 := hid_of (B4.out.trans (h5.mono B4.out.size))
      clear k0 k1 k2 k3
      obtain ⟨k0, k1, k2, k3⟩ := (X4.out.below h5).cells
      clear h5 B4 X4
      by_cases f1 : ne = 0
      · subst f1
        cases f2 : nb
        · have hp := HV0.out f2
          subst hp f2
          go_wp2_with fail
          go_ret
          exact ⟨rfl, B5.out⟩
        · obtain ⟨q1, q2⟩ := HQ.out rfl f2
          subst q1 q2 f2
          clear HV0 HB0 HQ
          go_wp2_with fail
          refine (HNP.out _).mono ?_
          rintro e w6 ⟨rfl, h6⟩
          have B6 := hid_of (B5.out.trans (h6.mono B5.out.size))
          clear h6 B5
          go_wp2_with fail
          go_ret
          exact ⟨ret_true (by simp), B6.out⟩
      · have hb := HB0.out f1
        have hp := HV0.out hb
        subst hb hp
        have t1 : (ne != 0) = true := by rw [bne_iff_ne]; exact f1
        go_wp2_with fail
        go_ret
        exact ⟨rfl, B5.out⟩
  · have t1 : (e1 == 0) = false := by rw [beq_eq_false_iff_ne]; exact c1
    clear HI HP
    go_wp2_with fail
    refine (HPN.out _).mono ?_
    rintro e w5 ⟨rfl, h5⟩
    have B5 := hid_of (B3.out.trans (h5.mono B3.out.size))
    clear k0 k1 k2 k3
    obtain ⟨k0, k1, k2, k3⟩ := (X3.out.below h5).cells
    clear h5 B3 X3
    by_cases f1 : ne = 0
    · subst f1
      cases f2 : nb
      · have hp := HV0.out f2
        subst hp f2
        go_wp2_with fail
        go_ret
        exact ⟨rfl, B5.out⟩
      · obtain ⟨q1, q2⟩ := HQ.out rfl f2
        subst q1 q2 f2
        clear HV0 HB0 HQ
        go_wp2_with fail
        refine (HNP.out _).mono ?_
        rintro e w6 ⟨rfl, h6⟩
        have B6 := hid_of (B5.out.trans (h6.mono B5.out.size))
        clear h6 B5
        go_wp2_with fail
        go_ret
        exact ⟨ret_true (by simp), B6.out⟩
    · have hb := HB0.out f1
      have hp := HV0.out hb
      subst hb hp
      have t1 : (ne != 0) = true := by rw [bne_iff_ne]; exact f1
      go_wp2_with fail
      go_ret
      exact ⟨rfl, B5.out⟩

set_option maxRecDepth 100000 in
theorem lifted (os : Os) (started : os.Started) (H : Type) (enc : TypeId × Value → H) :
    ReturnsInHanded {} Try.checked os 4 .any (Rows.layoutBackSpec.pre6 enc Try.prog Try.f4 Rows.layoutBackRow.domain false) (Rows.layoutBackSpec.post enc Try.prog Try.f4 false true false false) := by
  refine returnsInHanded_of_change_sized (C := Try.checked) own started (by kernel_rfl) Try.func4
    (ChangeSpec.witness6 (enc := enc) (C := Try.checked) false ⟨#[], #[.agg #[.int .i64 0, .int .i64 0, .int .i64 0, .int .i64 0], .int .i64 0, .int .i64 0, .int .i64 0, .int .i64 0], []⟩ 8 (by kernel_rfl) (by kernel_rfl) (by kernel_rfl) (by kernel_rfl)) ?_
  intro W base args ds gs before hval0 hW hcnd hsz0 _
  have hsz : (DataW.weightsEach Try.prog (Try.f4.params.toList ++ Rows.layoutBackSpec.plain.varTypes Try.prog) (ds ++ gs)).all (· ≤ reachBytes) = true := hsz0
  clear hsz0
  have hval : ∀ (j : Nat) t v, Try.f4.params[j]? = some t → args[j]? = some v → Value.okWide Try.prog W .any base t v := hval0
  have hW' := hW
  obtain ⟨p, q, hA0, hV, rfl, hfz, hnd⟩ := hW
  have hA : DataW.TrodAll enc Try.prog W 0 (fun _ => true) true Try.f4.params.toList args.toList ds p := hA0
  rw [Try.params4] at hA hval hsz
  obtain ⟨v0, vs0, d0, ds0, p0, q0, hargs, rfl, rfl, h0, r0⟩ := trodAll_cons hA
  obtain ⟨v1, vs1, d1, ds1, p1, q1, rfl, rfl, rfl, h1, r1⟩ := trodAll_cons r0
  obtain ⟨v2, vs2, d2, ds2, p2, q2, rfl, rfl, rfl, h2, r2⟩ := trodAll_cons r1
  obtain ⟨v3, vs3, d3, ds3, p3, q3, rfl, rfl, rfl, h3, r3⟩ := trodAll_cons r2
  obtain ⟨v4, vs4, d4, ds4, p4, q4, rfl, rfl, rfl, h4, r4⟩ := trodAll_cons r3
  obtain ⟨rfl, rfl, rfl⟩ := trodAll_nil r4
  obtain rfl : args = #[v0, v1, v2, v3, v4] := by cases args; simp_all
  obtain ⟨rfl, rfl⟩ := trodVars_none hV
  have k0 := h0
  have lt0 : ∀ x ∈ p0, x.block < W.heap.size := by obtain ⟨m, hm⟩ := k0; exact DataW.trod_lt m _ _ _ hm
  obtain ⟨N0, D0, M0, T0, rfl, y0a, y0b, y0c, y0d⟩ := open_lay (hval 0 23 v0 rfl rfl) h0
  obtain ⟨x1, rfl, rfl, rfl, w1⟩ := open_int Try.underlying3 (hval 1 3 v1 rfl rfl) h1
  obtain ⟨x2, rfl, rfl, rfl, w2⟩ := open_int Try.underlying3 (hval 2 3 v2 rfl rfl) h2
  obtain ⟨x3, rfl, rfl, rfl, w3⟩ := open_int Try.underlying3 (hval 3 3 v3 rfl rfl) h3
  obtain ⟨x4, rfl, rfl, rfl, w4⟩ := open_int Try.underlying3 (hval 4 3 v4 rfl rfl) h4
  clear hA0 hval0
  refine (walk N0 D0 M0 T0 x1 x2 x3 x4 W y0a y0b y0c y0d w1 w2 w3 w4).mono fun e W' ⟨he, bel⟩ => ?_
  subst he
  exact ⟨_, rfl, _, _, _, [], _, [], hW', trodAll_mk1 (shut_bool Try.underlying4 _), (trodAll_cons_mk (Below.trod laidOut (by kernel_rfl) (of_decide_eq_true (by kernel_rfl)) k0 bel lt0) (trodAll_cons_mk (shut_int Try.underlying3 w1) (trodAll_cons_mk (shut_int Try.underlying3 w2) (trodAll_cons_mk (shut_int Try.underlying3 w3) (trodAll_cons_mk (shut_int Try.underlying3 w4) trodAll_mk0))))), rfl, bel.frame _, fun h => by cases h⟩

theorem over : Rows.layoutBackRow.holds Try.pinned (OpenSpec.ofChange Rows.layoutBackSpec) :=
  OpenClaim.holds_of_wide 4 Try.f4 rfl rfl rfl rfl rfl rfl rfl ⟨rfl, rfl, rfl, rfl, rfl⟩ rfl rfl rfl rfl rfl (by kernel_rfl) Try.func4 (by kernel_rfl)
    (of_decide_eq_true (by kernel_rfl)) (by unfold Func.isWrapper; first | (rw [if_pos (by decide +kernel)]; kernel_rfl) | (rw [if_neg (by decide +kernel)]; exact ⟨rfl, rfl⟩))
    (fun os started H enc _ => lifted os started H enc)

/-- ████ THE STATEMENT ████ -/
theorem proved : Rows.LayoutBackSaid := over
#print axioms proved
end Go.Proofs.Ytegpniiokiejhaa.layoutBack
