/- For every two numbers the statement QuorumEven answers true: of n nodes that weigh all the same just n/2 and one are enough, and the others are spare; with no condition. -/
import Derived.Test.YtegpniiokiejhabRows
import Derived.Test.YtegpniiokiejhabQy
import Derived.WalkKit
import Derived.ProofKit
import Derived.OpenShut
import Derived.ShutString
import Derived.ChangeOld
import Derived.Below
import Derived.SizedLaws
namespace Go.Proofs.Ytegpniiokiejhab.quorumEven
open Go.ChangeShapes Go.WideShapes Go.ChangeAt Go.RowKit
open Go.ChangeMaps (open_string shut_string)
set_option linter.unusedVariables false

theorem own : ownKnob Try.prog.godebug = none := by kernel_rfl
theorem laidOut : laidOutB Try.prog = true := by kernel_rfl

theorem ret_true {b : Bool} (h : b = true) : Ending.returned (.bool b) = .returned (.bool true) := by rw [h]
set_option maxRecDepth 100000 in
set_option maxHeartbeats 4000000 in
theorem walk (n x : Int) (w : World) (wn : (Lit.int .i64 n).wf = true) (wx : (Lit.int .i64 x).wf = true) :
    Calls Try.prog 6 #[.int .i64 n, .int .i64 x] w fun e w' => e = .returned (.bool true) ∧ Below w.heap.size w w' := by
  obtain ⟨i0, hi, hz0, hz1, hz2⟩ := info_parts info3
  clear wn wx
  go_enter Try.func6, Try.ntmps6
  go_wp2_with fail
  refine (begun_any _).mono ?_
  rintro e w1 ⟨rfl, h⟩
  have BB := hid_of h
  clear h
  by_cases c1 : n < 1
  · go_wp2_with fail
    go_ret
    exact ⟨rfl, BB.out⟩
  by_cases c2 : 12 < n
  · go_wp2_with fail
    go_ret
    exact ⟨rfl, BB.out⟩
  by_cases c3 : x < 1
  · go_wp2_with fail
    go_ret
    exact ⟨rfl, BB.out⟩
  by_cases c4 : 100 < x
  · go_wp2_with fail
    go_ret
    exact ⟨rfl, BB.out⟩
  obtain ⟨m, rfl⟩ := Int.eq_ofNat_of_zero_le (show 0 ≤ n by omega)
  have m1 : 1 ≤ m := by omega
  have m2 : m ≤ 12 := by omega
  have HL := hid_of (fun k => @even_least m k x m1 m2 (by omega) (by omega))
  have HS := hid_of (fun k => @even_spare m k x m1 m2 (by omega) (by omega))
  have HQ : Hid (qk (List.replicate m x) ((m : Int) * x / 2 + 1) = 0) := hid_of (qk_of (even_ok m1 m2 (by omega) (by omega)))
  go_wp2_with fail
  go_loopw [5, 6] (fun v i w' => ∃ k : Nat, k ≤ m ∧ i = .int .i64 k ∧ Hid (OwI w1.heap.size w' v (List.replicate k x)) ∧ Hid (Below w1.heap.size w1 w')) (fun _ i _ => m - (intOf i).toNat)
  case atStart => exact ⟨0, by omega, rfl, owi_nil _ _, Below.refl _ _⟩
  case round =>
    obtain ⟨k, hk, rfl, HO, HW⟩ := hrel
    obtain ⟨va, vc, hvs⟩ := HO.out.shape
    rw [List.length_replicate] at hvs
    subst hvs
    by_cases hlt : k < m
    · have tl : (k : Int) < (m : Int) := by omega
      have HSn : Hid (List.replicate (k + 1) x = List.replicate k x ++ [x]) := hid_of (List.replicate_succ' ..)
      have HOA := hid_of (HO.out.below (below_new wr (.cells #[.int .i64 x] 3)) (Nat.le_refl _))
      have HBA := hid_of (HW.out.trans ((below_new wr (.cells #[.int .i64 x] 3)).mono HW.out.size))
      have hsz := HW.out.size
      have HOw : Hid (World.ownsRow (wr.alloc (.cells #[.int .i64 x] 3)) w1.heap.size 3 1 (.slice va k vc) k (cellsZ (List.replicate k x))) := hid_of (by have h := HOA.out.1; rw [List.length_replicate] at h; exact h)
      go_wp2_with (at_builtin; refine wpList_append_own _ rfl _ _ 22 rfl w1.heap.size 3 i0 (.int .i64 0) 1 8 und22 hi hz0 hz1 hz2 rfl (by decide) _ k (cellsZ (List.replicate k x)) rfl HOw.out ⟨wr.heap.size, 0, none⟩ 1 1 [.int .i64 x] rfl rfl (fun j u hj => by exact news_int wr _ j u hj) (by simp [Value.oneCell']) (by unfold maxLen; omega) (by omega) (by simp; omega) ?_; intro v' w3 hown hgrow hnil)
      go_roundw
      case rel =>
        refine ⟨k + 1, by omega, by go_num, ?_, HBA.out.grown hgrow (by simp; omega) HOA.out.block_le⟩
        rw [HSn.out]
        exact owi_snoc (by rw [List.length_replicate]; omega) (by rw [List.length_replicate]; exact hown)
      case measure => simp [intOf]; omega
    · have tl : ¬ (k : Int) < (m : Int) := by omega
      have hke : k = m := by omega
      subst hke
      have BB := hid_of (BB.out.trans (HW.out.mono BB.out.size))
      have HI := hid_of HO.out.is
      have p1 : (k : Int) * x ≤ 12 * 100 := Int.mul_le_mul (by omega) (by omega) (by omega) (by omega)
      have p0 : 0 ≤ (k : Int) * x := Int.mul_nonneg (by omega) (by omega)
      clear HO HW
      go_wp2_with fail
      refine (Least_any _ (List.replicate k x) ((k : Int) * x / 2 + 1) _ HI.out).mono ?_
      rintro e w4 ⟨l, rfl, hl, h⟩
      have hl2 := HL.out _ hl
      subst hl2
      rw [HQ.out]
      have BB := hid_of (BB.out.trans (h.mono BB.out.size))
      have HI := hid_of ((HI.out.below h).mono h.size)
      clear h hl
      go_wp2_with fail
      refine (Spare_any _ (List.replicate k x) ((k : Int) * x / 2 + 1) _ HI.out).mono ?_
      rintro e w5 ⟨l, rfl, hl, h⟩
      have hl2 := HS.out _ hl
      have hl3 : ((l : Nat) : Int) = (k : Int) - ((k / 2 + 1 : Nat) : Int) := by omega
      rw [HQ.out]
      have BB := hid_of (BB.out.trans (h.mono BB.out.size))
      have g1 : ((((k / 2 + 1 : Nat) : Int)) == (k : Int) / 2 + 1) = true := by rw [beq_iff_eq]; omega
      have g2 : (((l : Nat) : Int) == (k : Int) - ((k / 2 + 1 : Nat) : Int)) = true := by rw [beq_iff_eq]; exact hl3
      have l1 : l ≤ 12 := by omega
      have HL2 : Hid ((l : Int) = (k : Int) - ((k : Int) / 2 + 1)) := hid_of (by omega)
      clear h hl hl2 hl3
      generalize hq : k / 2 + 1 = q at *
      have q1 : q ≤ 7 := by omega
      clear hq
      go_wp2_with fail
      go_ret
      refine ⟨ret_true ?_, BB.out⟩
      rw [beq_iff_eq]
      exact HL2.out

set_option maxRecDepth 100000 in
theorem lifted (os : Os) (started : os.Started) (H : Type) (enc : TypeId × Value → H) :
    ReturnsInHanded {} Try.checked os 6 .any (Rows.quorumEvenSpec.pre6 enc Try.prog Try.f6 Rows.quorumEvenRow.domain false) (Rows.quorumEvenSpec.post enc Try.prog Try.f6 false true false false) := by
  refine returnsInHanded_of_change_sized (C := Try.checked) own started (by kernel_rfl) Try.func6
    (ChangeSpec.witness6 (enc := enc) (C := Try.checked) false ⟨#[], #[.int .i64 0, .int .i64 0], []⟩ 8 (by kernel_rfl) (by kernel_rfl) (by kernel_rfl) (by kernel_rfl)) ?_
  intro W base args ds gs before hval0 hW hcnd hsz0 _
  have hsz : (DataW.weightsEach Try.prog (Try.f6.params.toList ++ Rows.quorumEvenSpec.plain.varTypes Try.prog) (ds ++ gs)).all (· ≤ reachBytes) = true := hsz0
  clear hsz0
  have hval : ∀ (j : Nat) t v, Try.f6.params[j]? = some t → args[j]? = some v → Value.okWide Try.prog W .any base t v := hval0
  have hW' := hW
  obtain ⟨p, q, hA0, hV, rfl, hfz, hnd⟩ := hW
  have hA : DataW.TrodAll enc Try.prog W 0 (fun _ => true) true Try.f6.params.toList args.toList ds p := hA0
  rw [Try.params6] at hA hval hsz
  obtain ⟨v0, vs0, d0, ds0, p0, q0, hargs, rfl, rfl, h0, r0⟩ := trodAll_cons hA
  obtain ⟨v1, vs1, d1, ds1, p1, q1, rfl, rfl, rfl, h1, r1⟩ := trodAll_cons r0
  obtain ⟨rfl, rfl, rfl⟩ := trodAll_nil r1
  obtain rfl : args = #[v0, v1] := by cases args; simp_all
  obtain ⟨rfl, rfl⟩ := trodVars_none hV
  obtain ⟨x0, rfl, rfl, rfl, w0⟩ := open_int Try.underlying3 (hval 0 3 v0 rfl rfl) h0
  obtain ⟨x1, rfl, rfl, rfl, w1⟩ := open_int Try.underlying3 (hval 1 3 v1 rfl rfl) h1
  clear hA0 hval0
  refine (walk x0 x1 W w0 w1).mono fun e W' ⟨he, bel⟩ => ?_
  subst he
  exact ⟨_, rfl, _, _, _, [], _, [], hW', trodAll_mk1 (shut_bool Try.underlying4 _), (trodAll_cons_mk (shut_int Try.underlying3 w0) (trodAll_cons_mk (shut_int Try.underlying3 w1) trodAll_mk0)), rfl, bel.frame _, fun h => by cases h⟩

theorem over : Rows.quorumEvenRow.holds Try.pinned (OpenSpec.ofChange Rows.quorumEvenSpec) :=
  OpenClaim.holds_of_wide 6 Try.f6 rfl rfl rfl rfl rfl rfl rfl ⟨rfl, rfl, rfl, rfl, rfl⟩ rfl rfl rfl rfl rfl (by kernel_rfl) Try.func6 (by kernel_rfl)
    (of_decide_eq_true (by kernel_rfl)) (by unfold Func.isWrapper; first | (rw [if_pos (by decide +kernel)]; kernel_rfl) | (rw [if_neg (by decide +kernel)]; exact ⟨rfl, rfl⟩))
    (fun os started H enc _ => lifted os started H enc)

/-- ████ THE STATEMENT ████ -/
theorem proved : Rows.QuorumEvenSaid := over
#print axioms proved
end Go.Proofs.Ytegpniiokiejhab.quorumEven
