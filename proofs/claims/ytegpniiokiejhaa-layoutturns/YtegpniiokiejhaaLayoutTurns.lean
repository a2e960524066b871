/- For every layout, stripe and piece the statement LayoutTurns answers true: a layout that is turned by one is one stripe further; with no condition. -/
import Derived.Test.YtegpniiokiejhaaRows
import Derived.Test.YtegpniiokiejhaaLyB
import Derived.Test.YtegpniiokiejhaaLa
import Derived.WalkKit
import Derived.ProofKit
import Derived.OpenShut
import Derived.ShutString
import Derived.ChangeOld
import Derived.Below
import Derived.SizedLaws
namespace Go.Proofs.Ytegpniiokiejhaa.layoutTurns
open Go.ChangeShapes Go.WideShapes Go.ChangeAt Go.RowKit
open Go.ChangeMaps (open_string shut_string)
set_option linter.unusedVariables false

theorem own : ownKnob Try.prog.godebug = none := by kernel_rfl
theorem laidOut : laidOutB Try.prog = true := by kernel_rfl

theorem turn_same {N D M T s p : Int} (h1 : ndE N D M (T + 1) s p = 0) (h2 : ndE N D M T (s + 1) p = 0) : ndV N D M (T + 1) s p = ndV N D M T (s + 1) p := by
  unfold ndV
  rw [if_pos h1, if_pos h2, show T + 1 + s + p = T + (s + 1) + p by omega]
theorem ret_true {b : Bool} (h : b = true) : Ending.returned (.bool b) = .returned (.bool true) := by rw [h]
set_option maxHeartbeats 2000000 in
theorem walk (N D M T s p : Int) (w : World) (yN : (Lit.int .i64 N).wf = true) (yD : (Lit.int .i64 D).wf = true) (yM : (Lit.int .i64 M).wf = true) (yT : (Lit.int .i64 T).wf = true) (ws : (Lit.int .i64 s).wf = true) (wp : (Lit.int .i64 p).wf = true) :
    Calls Try.prog 7 #[lay N D M T, .int .i64 s, .int .i64 p] w fun e w' => e = .returned (.bool true) ∧ Below w.heap.size w w' := by
  have b0 := below_new w (.cells #[.int .i64 N, .int .i64 D, .int .i64 M, .int .i64 T] 23)
  have X0 := hid_of (show Bx _ _ _ _ _ _ from heap_new w (.cells #[.int .i64 N, .int .i64 D, .int .i64 M, .int .i64 T] 23))
  have B0 := hid_of b0
  clear b0
  have HN : Hid (lay N D M T = .agg #[.int .i64 N, .int .i64 D, .int .i64 M, .int .i64 T]) := rfl
  rw [HN.out]
  go_enter Try.func7, Try.ntmps7
  go_wp2_with fail
  generalize w.alloc (.cells #[.int .i64 N, .int .i64 D, .int .i64 M, .int .i64 T] 23) = W at *
  refine (begun_any _).mono ?_
  rintro e w1 ⟨rfl, h1⟩
  have B1 := hid_of (B0.out.trans (h1.mono B0.out.size))
  have X1 := hid_of (X0.out.below h1)
  obtain ⟨k0, k1, k2, k3⟩ := X1.out.cells
  clear h1 B0 X0
  by_cases a1 : T < 0
  · go_wp2_with fail
    go_ret
    exact ⟨rfl, B1.out⟩
  by_cases a2 : 12 < T
  · go_wp2_with fail
    go_ret
    exact ⟨rfl, B1.out⟩
  cases a3 : (T == wrap64 (N - 1))
  · by_cases a4 : s < 0
    · go_wp2_with fail
      go_ret
      exact ⟨rfl, B1.out⟩
    by_cases a5 : 64 < s
    · go_wp2_with fail
      go_ret
      exact ⟨rfl, B1.out⟩
    have HS := hid_of (@turn_same N D M T s p)
    go_wp2_with fail
    refine (node_any N D M (T + 1) s p _).mono ?_
    rintro e w2 ⟨rfl, h2⟩
    have h2 := (below_new w1 _).trans (h2.mono (below_new w1 _).size)
    have B2 := hid_of (B1.out.trans (h2.mono B1.out.size))
    clear k0 k1 k2 k3
    obtain ⟨k0, k1, k2, k3⟩ := (X1.out.below h2).cells
    clear h2 B1 X1
    generalize ndV N D M (T + 1) s p = v1 at HS ⊢
    generalize ndE N D M (T + 1) s p = e1 at HS ⊢
    go_wp2_with fail
    refine (node_any N D M T (s + 1) p _).mono ?_
    rintro e w3 ⟨rfl, h3⟩
    have B3 := hid_of (B2.out.trans (h3.mono B2.out.size))
    clear h3 B2
    generalize ndV N D M T (s + 1) p = v2 at HS ⊢
    generalize ndE N D M T (s + 1) p = e2 at HS ⊢
    clear a3 k0 k1 k2 k3
    by_cases c1 : e1 = 0
    · by_cases c2 : e2 = 0
      · have hv := HS.out c1 c2
        subst c1 c2 hv
        go_wp2_with fail
        go_ret
        exact ⟨ret_true (by simp), B3.out⟩
      · subst c1
        have t2 : (e2 != 0) = true := by rw [bne_iff_ne]; exact c2
        go_wp2_with fail
        go_ret
        exact ⟨ret_true (by simp), B3.out⟩
    · have t1 : (e1 != 0) = true := by rw [bne_iff_ne]; exact c1
      go_wp2_with fail
      go_ret
      exact ⟨ret_true (by simp), B3.out⟩
  · go_wp2_with fail
    go_ret
    exact ⟨rfl, B1.out⟩

set_option maxRecDepth 100000 in
theorem lifted (os : Os) (started : os.Started) (H : Type) (enc : TypeId × Value → H) :
    ReturnsInHanded {} Try.checked os 7 .any (Rows.layoutTurnsSpec.pre6 enc Try.prog Try.f7 Rows.layoutTurnsRow.domain false) (Rows.layoutTurnsSpec.post enc Try.prog Try.f7 false true false false) := by
  refine returnsInHanded_of_change_sized (C := Try.checked) own started (by kernel_rfl) Try.func7
    (ChangeSpec.witness6 (enc := enc) (C := Try.checked) false ⟨#[], #[.agg #[.int .i64 0, .int .i64 0, .int .i64 0, .int .i64 0], .int .i64 0, .int .i64 0], []⟩ 8 (by kernel_rfl) (by kernel_rfl) (by kernel_rfl) (by kernel_rfl)) ?_
  intro W base args ds gs before hval0 hW hcnd hsz0 _
  have hsz : (DataW.weightsEach Try.prog (Try.f7.params.toList ++ Rows.layoutTurnsSpec.plain.varTypes Try.prog) (ds ++ gs)).all (· ≤ reachBytes) = true := hsz0
  clear hsz0
  have hval : ∀ (j : Nat) t v, Try.f7.params[j]? = some t → args[j]? = some v → Value.okWide Try.prog W .any base t v := hval0
  have hW' := hW
  obtain ⟨p, q, hA0, hV, rfl, hfz, hnd⟩ := hW
  have hA : DataW.TrodAll enc Try.prog W 0 (fun _ => true) true Try.f7.params.toList args.toList ds p := hA0
  rw [Try.params7] at hA hval hsz
  obtain ⟨v0, vs0, d0, ds0, p0, q0, hargs, rfl, rfl, h0, r0⟩ := trodAll_cons hA
  obtain ⟨v1, vs1, d1, ds1, p1, q1, rfl, rfl, rfl, h1, r1⟩ := trodAll_cons r0
  obtain ⟨v2, vs2, d2, ds2, p2, q2, rfl, rfl, rfl, h2, r2⟩ := trodAll_cons r1
  obtain ⟨rfl, rfl, rfl⟩ := trodAll_nil r2
  obtain rfl : args = #[v0, v1, v2] := by cases args; simp_all
  obtain ⟨rfl, rfl⟩ := trodVars_none hV
  have k0 := h0
  have lt0 : ∀ x ∈ p0, x.block < W.heap.size := by obtain ⟨m, hm⟩ := k0; exact DataW.trod_lt m _ _ _ hm
  obtain ⟨N0, D0, M0, T0, rfl, y0a, y0b, y0c, y0d⟩ := open_lay (hval 0 23 v0 rfl rfl) h0
  obtain ⟨x1, rfl, rfl, rfl, w1⟩ := open_int Try.underlying3 (hval 1 3 v1 rfl rfl) h1
  obtain ⟨x2, rfl, rfl, rfl, w2⟩ := open_int Try.underlying3 (hval 2 3 v2 rfl rfl) h2
  clear hA0 hval0
  refine (walk N0 D0 M0 T0 x1 x2 W y0a y0b y0c y0d w1 w2).mono fun e W' ⟨he, bel⟩ => ?_
  subst he
  exact ⟨_, rfl, _, _, _, [], _, [], hW', trodAll_mk1 (shut_bool Try.underlying4 _), (trodAll_cons_mk (Below.trod laidOut (by kernel_rfl) (of_decide_eq_true (by kernel_rfl)) k0 bel lt0) (trodAll_cons_mk (shut_int Try.underlying3 w1) (trodAll_cons_mk (shut_int Try.underlying3 w2) trodAll_mk0))), rfl, bel.frame _, fun h => by cases h⟩

theorem over : Rows.layoutTurnsRow.holds Try.pinned (OpenSpec.ofChange Rows.layoutTurnsSpec) :=
  OpenClaim.holds_of_wide 7 Try.f7 rfl rfl rfl rfl rfl rfl rfl ⟨rfl, rfl, rfl, rfl, rfl⟩ rfl rfl rfl rfl rfl (by kernel_rfl) Try.func7 (by kernel_rfl)
    (of_decide_eq_true (by kernel_rfl)) (by unfold Func.isWrapper; first | (rw [if_pos (by decide +kernel)]; kernel_rfl) | (rw [if_neg (by decide +kernel)]; exact ⟨rfl, rfl⟩))
    (fun os started H enc _ => lifted os started H enc)

/-- ████ THE STATEMENT ████ -/
theorem proved : Rows.LayoutTurnsSaid := over
#print axioms proved
end Go.Proofs.Ytegpniiokiejhaa.layoutTurns
