/- For every two stamps, every list of stamps and every number the statement StampTells answers true: all calls answer just what the document says, errors too; with no condition. -/
import Derived.Test.YtcplbpnpcmgjfaaRows
import Derived.Test.YtcplbpnpcmgjfaaSd
import Derived.Test.YtcplbpnpcmgjfaaSg
import Derived.Test.YtcplbpnpcmgjfaaSn
import Derived.WalkKit
import Derived.ProofKit
import Derived.OpenShut
import Derived.ShutString
import Derived.ChangeOld
import Derived.Below
import Derived.SizedLaws
namespace Go.Proofs.Ytcplbpnpcmgjfaa.stampTells
open Go.ChangeShapes Go.WideShapes Go.ChangeAt Go.RowKit
open Go.ChangeMaps (open_string shut_string)
set_option linter.unusedVariables false

theorem own : ownKnob Try.prog.godebug = none := by kernel_rfl
theorem laidOut : laidOutB Try.prog = true := by kernel_rfl

set_option maxRecDepth 100000 in
set_option maxHeartbeats 4000000 in
theorem walk (a b : St) (v : Value) (L : List St) (i : Int) (w : World) (_ : (Lit.int .i64 a.1).wf = true) (_ : (Lit.int .i64 a.2).wf = true) (_ : (Lit.int .i64 b.1).wf = true) (_ : (Lit.int .i64 b.2).wf = true) (hL : Ss w.heap.size w v L) (_ : (Lit.int .i64 i).wf = true) :
    Calls Try.prog 3 #[sv a, sv b, v, .int .i64 i] w fun e w' => e = .returned (.bool true) ∧ Below w.heap.size w w' := by
  have HL := hid_of hL
  obtain ⟨ao, c, rfl⟩ := hL.shape
  clear hL
  obtain ⟨a1, a2⟩ := a
  obtain ⟨b1, b2⟩ := b
  have HN : Hid (∀ p : St, sv p = .agg #[.int .i64 p.1, .int .i64 p.2]) := fun _ => rfl
  have hmx : Try.prog.follows Departure.mixedOrders = true := by kernel_rfl
  rw [HN.out, HN.out]
  have e1 := size_new w (.cells #[.int .i64 a1, .int .i64 a2] 23)
  have BB := hid_of (below_new2 w (.cells #[.int .i64 a1, .int .i64 a2] 23) (.cells #[.int .i64 b1, .int .i64 b2] 23))
  have XA := hid_of (show Bs _ w.heap.size (a1, a2) from heap_old (heap_new w (.cells #[.int .i64 a1, .int .i64 a2] 23)) (.cells #[.int .i64 b1, .int .i64 b2] 23))
  have XB := hid_of (show Bs _ (w.heap.size + 1) (b1, b2) from heap_at (w.alloc (.cells #[.int .i64 a1, .int .i64 a2] 23)) (.cells #[.int .i64 b1, .int .i64 b2] 23) e1)
  clear e1
  obtain ⟨⟨m1, m2⟩, hm⟩ : ∃ p, mxV L = p := ⟨_, rfl⟩
  obtain ⟨⟨n1, n2⟩, hn⟩ : ∃ p, nxV L i = p := ⟨_, rfl⟩
  obtain ⟨me, hme⟩ : ∃ p, mxE L = p := ⟨_, rfl⟩
  obtain ⟨ne, hne⟩ : ∃ p, nxE L i = p := ⟨_, rfl⟩
  have K1 : Hid (∀ w', Ss w'.heap.size w' (.slice ao L.length c) L → Calls Try.prog 9 #[.slice ao L.length c] w' fun e w2 => e = .returned (.tuple #[.agg #[.int .i64 m1, .int .i64 m2], .int .i64 me]) ∧ Below w'.heap.size w' w2) := hid_of (fun w' h => by have := max_any _ L w' h; rw [hm, hme] at this; exact this)
  have K2 : Hid (∀ w', Ss w'.heap.size w' (.slice ao L.length c) L → Calls Try.prog 10 #[.slice ao L.length c, .int .i64 i] w' fun e w2 => e = .returned (.tuple #[.agg #[.int .i64 n1, .int .i64 n2], .int .i64 ne]) ∧ Below w'.heap.size w' w2) := hid_of (fun w' h => by have := next_any _ L i w' h; rw [hn, hne] at this; exact this)
  have K3 : Hid (∀ w', Ss w'.heap.size w' (.slice ao L.length c) L → Calls Try.prog 11 #[.slice ao L.length c] w' fun e w2 => e = .returned (.tuple #[.agg #[.int .i64 m1, .int .i64 m2], .int .i64 me]) ∧ Below w'.heap.size w' w2) := hid_of (fun w' h => by have := rmax_any _ L w' h; rw [hm, hme] at this; exact this)
  have K4 : Hid (∀ w', Ss w'.heap.size w' (.slice ao L.length c) L → Calls Try.prog 12 #[.slice ao L.length c, .int .i64 i] w' fun e w2 => e = .returned (.tuple #[.agg #[.int .i64 n1, .int .i64 n2], .int .i64 ne]) ∧ Below w'.heap.size w' w2) := hid_of (fun w' h => by have := rnext_any _ L i w' h; rw [hn, hne] at this; exact this)
  clear hm hn hme hne
  have cc := hid_of (lessB a1 a2 b1 b2)
  have cd := hid_of (rlessB a1 a2 b1 b2)
  have ce := hid_of (checkB a1 a2)
  have cf := hid_of (rcheckB a1 a2)
  generalize slt (a1, a2) (b1, b2) = s at *
  generalize sck (a1, a2) = ck at *
  go_enter Try.func3, Try.ntmps3
  go_wp2_with fail
  generalize (w.alloc (.cells #[.int .i64 a1, .int .i64 a2] 23)).alloc (.cells #[.int .i64 b1, .int .i64 b2] 23) = W0 at *
  generalize w.heap.size + 1 = gb at *
  have HL0 := HL
  have HL := hid_of (HL.out.below BB.out)
  refine (K1.out _ (HL.out.mono BB.out.size)).mono ?_
  rintro e u1 ⟨rfl, hu⟩
  have bn := below_new u1 (.cells #[.int .i64 m1, .int .i64 m2] 23)
  have hh := hu.trans (bn.mono hu.size)
  have XA := hid_of (XA.out.below hh XA.out.lt)
  have XB := hid_of (XB.out.below hh XB.out.lt)
  have GM := hid_of (show Bs _ _ (m1, m2) from heap_new u1 (.cells #[.int .i64 m1, .int .i64 m2] 23))
  have BB := hid_of (BB.out.trans (hh.mono BB.out.size))
  have HL := hid_of (HL0.out.below BB.out)
  clear bn hh hu
  go_wp2_with fail
  generalize u1.alloc (.cells #[.int .i64 m1, .int .i64 m2] 23) = W1 at *
  generalize u1.heap.size = g1 at *
  refine (K2.out _ (HL.out.mono BB.out.size)).mono ?_
  rintro e u2 ⟨rfl, hu⟩
  have bn := below_new u2 (.cells #[.int .i64 n1, .int .i64 n2] 23)
  have hh := hu.trans (bn.mono hu.size)
  have XA := hid_of (XA.out.below hh XA.out.lt)
  have XB := hid_of (XB.out.below hh XB.out.lt)
  have GM := hid_of (GM.out.below hh GM.out.lt)
  have GN := hid_of (show Bs _ _ (n1, n2) from heap_new u2 (.cells #[.int .i64 n1, .int .i64 n2] 23))
  have BB := hid_of (BB.out.trans (hh.mono BB.out.size))
  have HL := hid_of (HL0.out.below BB.out)
  clear bn hh hu
  go_wp2_with fail
  generalize u2.alloc (.cells #[.int .i64 n1, .int .i64 n2] 23) = W2 at *
  generalize u2.heap.size = g2 at *
  refine (K3.out _ (HL.out.mono BB.out.size)).mono ?_
  rintro e u3 ⟨rfl, hu⟩
  have bn := below_new u3 (.cells #[.int .i64 m1, .int .i64 m2] 23)
  have hh := hu.trans (bn.mono hu.size)
  have XA := hid_of (XA.out.below hh XA.out.lt)
  have XB := hid_of (XB.out.below hh XB.out.lt)
  have GM := hid_of (GM.out.below hh GM.out.lt)
  have GN := hid_of (GN.out.below hh GN.out.lt)
  have GX := hid_of (show Bs _ _ (m1, m2) from heap_new u3 (.cells #[.int .i64 m1, .int .i64 m2] 23))
  have BB := hid_of (BB.out.trans (hh.mono BB.out.size))
  have HL := hid_of (HL0.out.below BB.out)
  clear bn hh hu
  go_wp2_with fail
  generalize u3.alloc (.cells #[.int .i64 m1, .int .i64 m2] 23) = W3 at *
  generalize u3.heap.size = g3 at *
  refine (K4.out _ (HL.out.mono BB.out.size)).mono ?_
  rintro e u4 ⟨rfl, hu⟩
  have bn := below_new u4 (.cells #[.int .i64 n1, .int .i64 n2] 23)
  have hh := hu.trans (bn.mono hu.size)
  have XA := hid_of (XA.out.below hh XA.out.lt)
  have XB := hid_of (XB.out.below hh XB.out.lt)
  have GM := hid_of (GM.out.below hh GM.out.lt)
  have GN := hid_of (GN.out.below hh GN.out.lt)
  have GX := hid_of (GX.out.below hh GX.out.lt)
  have GY := hid_of (show Bs _ _ (n1, n2) from heap_new u4 (.cells #[.int .i64 n1, .int .i64 n2] 23))
  have BB := hid_of (BB.out.trans (hh.mono BB.out.size))
  have HL := hid_of (HL0.out.below BB.out)
  clear bn hh hu
  go_wp2_with fail
  generalize u4.alloc (.cells #[.int .i64 n1, .int .i64 n2] 23) = W at *
  generalize u4.heap.size = g4 at *
  have HA : Hid (∀ w', Below W.heap.size W w' → _) := hid_of fun w' (hw' : Below W.heap.size W w') => (XA.out.below hw' XA.out.lt).cells
  have HB : Hid (∀ w', Below W.heap.size W w' → _) := hid_of fun w' (hw' : Below W.heap.size W w') => (XB.out.below hw' XB.out.lt).cells
  have HM : Hid (∀ w', Below W.heap.size W w' → _) := hid_of fun w' (hw' : Below W.heap.size W w') => (GM.out.below hw' GM.out.lt).cells
  have HNN : Hid (∀ w', Below W.heap.size W w' → _) := hid_of fun w' (hw' : Below W.heap.size W w') => (GN.out.below hw' GN.out.lt).cells
  have HX : Hid (∀ w', Below W.heap.size W w' → _) := hid_of fun w' (hw' : Below W.heap.size W w') => (GX.out.below hw' GX.out.lt).cells
  have HY : Hid (∀ w', Below W.heap.size W w' → _) := hid_of fun w' (hw' : Below W.heap.size W w') => (GY.out.below hw' GY.out.lt).cells
  refine wp_region_quiet (C := fun w' => Below W.heap.size W w') hmx (by kernel_rfl) ((Below.refl _ _).drew) ?_
  repeat
    refine wpQuiet_step (fun K hK => ?_)
    go_simp
    first
      | (refine ⟨_, fun w' hw' => rfl, hK _ ?_⟩; clear hK K)
      | (refine ⟨_, fun w' hw' => (by simp only [HA.out w' hw', Result.andThen]; first | exact ⟨rfl, rfl⟩ | exact ⟨trivial, rfl⟩ | rfl), hK _ ?_⟩; clear hK K)
      | (refine ⟨_, fun w' hw' => (by simp only [HB.out w' hw', Result.andThen]; first | exact ⟨rfl, rfl⟩ | exact ⟨trivial, rfl⟩ | rfl), hK _ ?_⟩; clear hK K)
      | (refine ⟨_, fun w' hw' => (by simp only [HM.out w' hw', Result.andThen]; first | exact ⟨rfl, rfl⟩ | exact ⟨trivial, rfl⟩ | rfl), hK _ ?_⟩; clear hK K)
      | (refine ⟨_, fun w' hw' => (by simp only [HNN.out w' hw', Result.andThen]; first | exact ⟨rfl, rfl⟩ | exact ⟨trivial, rfl⟩ | rfl), hK _ ?_⟩; clear hK K)
      | (refine ⟨_, fun w' hw' => (by simp only [HX.out w' hw', Result.andThen]; first | exact ⟨rfl, rfl⟩ | exact ⟨trivial, rfl⟩ | rfl), hK _ ?_⟩; clear hK K)
      | (refine ⟨_, fun w' hw' => (by simp only [HY.out w' hw', Result.andThen]; first | exact ⟨rfl, rfl⟩ | exact ⟨trivial, rfl⟩ | rfl), hK _ ?_⟩; clear hK K)
      | (refine ⟨_, fun w' hw' => (begunS_any _).mono (by rintro e w2 ⟨rfl, hB⟩; exact ⟨rfl, hw'.trans (hB.mono hw'.size)⟩), hK _ ?_⟩; clear hK K)
      | (refine ⟨_, fun w' hw' => (cc.out _).mono (by rintro e w2 ⟨rfl, hB⟩; exact ⟨rfl, hw'.trans (hB.mono hw'.size)⟩), hK _ ?_⟩; clear hK K)
      | (refine ⟨_, fun w' hw' => (cd.out _).mono (by rintro e w2 ⟨rfl, hB⟩; exact ⟨rfl, hw'.trans (hB.mono hw'.size)⟩), hK _ ?_⟩; clear hK K)
      | (refine ⟨_, fun w' hw' => (ce.out _).mono (by rintro e w2 ⟨rfl, hB⟩; exact ⟨rfl, hw'.trans (hB.mono hw'.size)⟩), hK _ ?_⟩; clear hK K)
      | (refine ⟨_, fun w' hw' => (cf.out _).mono (by rintro e w2 ⟨rfl, hB⟩; exact ⟨rfl, hw'.trans (hB.mono hw'.size)⟩), hK _ ?_⟩; clear hK K)
      | (refine hK _ ?_; clear hK K)
  refine wpQuiet_nil ?_
  intro wq hq
  go_wp2_with fail
  go_ret
  exact ⟨rfl, BB.out.trans (hq.mono BB.out.size)⟩

set_option maxRecDepth 100000 in
theorem lifted (os : Os) (started : os.Started) (H : Type) (enc : TypeId × Value → H) :
    ReturnsInHanded {} Try.checked os 3 .any (Rows.stampTellsSpec.pre6 enc Try.prog Try.f3 Rows.stampTellsRow.domain false) (Rows.stampTellsSpec.post enc Try.prog Try.f3 false true false false) := by
  refine returnsInHanded_of_change_sized (C := Try.checked) own started (by kernel_rfl) Try.func3
    (ChangeSpec.witness6 (enc := enc) (C := Try.checked) false ⟨#[], #[.agg #[.int .i64 0, .int .i64 0], .agg #[.int .i64 0, .int .i64 0], .slice none 0 0, .int .i64 0], []⟩ 8 (by kernel_rfl) (by kernel_rfl) (by kernel_rfl) (by kernel_rfl)) ?_
  intro W base args ds gs before hval0 hW hcnd hsz0 _
  have hsz : (DataW.weightsEach Try.prog (Try.f3.params.toList ++ Rows.stampTellsSpec.plain.varTypes Try.prog) (ds ++ gs)).all (· ≤ reachBytes) = true := hsz0
  clear hsz0
  have hval : ∀ (j : Nat) t v, Try.f3.params[j]? = some t → args[j]? = some v → Value.okWide Try.prog W .any base t v := hval0
  have hW' := hW
  obtain ⟨p, q, hA0, hV, rfl, hfz, hnd⟩ := hW
  have hA : DataW.TrodAll enc Try.prog W 0 (fun _ => true) true Try.f3.params.toList args.toList ds p := hA0
  rw [Try.params3] at hA hval hsz
  obtain ⟨v0, vs0, d0, ds0, p0, q0, hargs, rfl, rfl, h0, r0⟩ := trodAll_cons hA
  obtain ⟨v1, vs1, d1, ds1, p1, q1, rfl, rfl, rfl, h1, r1⟩ := trodAll_cons r0
  obtain ⟨v2, vs2, d2, ds2, p2, q2, rfl, rfl, rfl, h2, r2⟩ := trodAll_cons r1
  obtain ⟨v3, vs3, d3, ds3, p3, q3, rfl, rfl, rfl, h3, r3⟩ := trodAll_cons r2
  obtain ⟨rfl, rfl, rfl⟩ := trodAll_nil r3
  obtain rfl : args = #[v0, v1, v2, v3] := by cases args; simp_all
  obtain ⟨rfl, rfl⟩ := trodVars_none hV
  have k0 := h0
  have lt0 : ∀ x ∈ p0, x.block < W.heap.size := by obtain ⟨m, hm⟩ := k0; exact DataW.trod_lt m _ _ _ hm
  obtain ⟨P0, rfl, y0a, y0b⟩ := open_st (hval 0 23 v0 rfl rfl) h0
  have k1 := h1
  have lt1 : ∀ x ∈ p1, x.block < W.heap.size := by obtain ⟨m, hm⟩ := k1; exact DataW.trod_lt m _ _ _ hm
  obtain ⟨P1, rfl, y1a, y1b⟩ := open_st (hval 1 23 v1 rfl rfl) h1
  obtain ⟨a2, len2, cap2, rfl⟩ := okWide_slice Try.underlying24 (hval 2 24 v2 rfl rfl)
  have k2 := h2
  have lt2 : ∀ x ∈ p2, x.block < W.heap.size := by obtain ⟨m, hm⟩ := k2; exact DataW.trod_lt m _ _ _ hm
  obtain ⟨A2, w2⟩ : ∃ A, Ss W.heap.size W (.slice a2 len2 cap2) A := by
    obtain ⟨fuel, hf⟩ := h2
    exact arg_ss hf hsz (j := 2) rfl rfl
  obtain ⟨x3, rfl, rfl, rfl, w3⟩ := open_int Try.underlying3 (hval 3 3 v3 rfl rfl) h3
  clear hA0 hval0
  refine (walk P0 P1 _ A2 x3 W y0a y0b y1a y1b w2 w3).mono fun e W' ⟨he, bel⟩ => ?_
  subst he
  exact ⟨_, rfl, _, _, _, [], _, [], hW', trodAll_mk1 (shut_bool Try.underlying4 _), (trodAll_cons_mk (Below.trod laidOut (by kernel_rfl) (of_decide_eq_true (by kernel_rfl)) k0 bel lt0) (trodAll_cons_mk (Below.trod laidOut (by kernel_rfl) (of_decide_eq_true (by kernel_rfl)) k1 bel lt1) (trodAll_cons_mk (Below.trod laidOut (by kernel_rfl) (of_decide_eq_true (by kernel_rfl)) k2 bel lt2) (trodAll_cons_mk (shut_int Try.underlying3 w3) trodAll_mk0)))), rfl, bel.frame _, fun h => by cases h⟩

theorem over : Rows.stampTellsRow.holds Try.pinned (OpenSpec.ofChange Rows.stampTellsSpec) :=
  OpenClaim.holds_of_wide 3 Try.f3 rfl rfl rfl rfl rfl rfl rfl ⟨rfl, rfl, rfl, rfl, rfl⟩ rfl rfl rfl rfl rfl (by kernel_rfl) Try.func3 (by kernel_rfl)
    (of_decide_eq_true (by kernel_rfl)) (by unfold Func.isWrapper; first | (rw [if_pos (by decide +kernel)]; kernel_rfl) | (rw [if_neg (by decide +kernel)]; exact ⟨rfl, rfl⟩))
    (fun os started H enc _ => lifted os started H enc)

/-- ████ THE STATEMENT ████ -/
theorem proved : Rows.StampTellsSaid := over
#print axioms proved
end Go.Proofs.Ytcplbpnpcmgjfaa.stampTells
